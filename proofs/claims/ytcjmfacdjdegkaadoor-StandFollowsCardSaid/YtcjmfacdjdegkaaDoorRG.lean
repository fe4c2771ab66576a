/- Contract of the reference's Follow. Conditions: the acts lie in memory as told. -/
import Derived.Test.YtcjmfacdjdegkaaDoorQ9
namespace Go.Proofs.YtcjmfacdjdegkaaDoor
open Go Go.RowKit
theorem SeqW.callskip {P : Program} {ops : Array Oper} {Q : Exit → _root_.Go.Act → World → Prop} {S : World → Prop} {i : Nat} {ks : List (Nat × Bool)} {o : Oper} {a : _root_.Go.Act} {w : World} (ho : opAt ops.toList i = some o) (hw : Region.wanted o (yielded ops a.tmps) = false) (hS : S w)
    (h : SeqW P ops Q S ks (a.put o.dst undef) w) : SeqW P ops Q S ((i, false) :: ks) a w :=
  wpOp_step (opAt_get ho) fun K' hK => by rw [if_neg (by rw [hw]; simp)]; exact hK _ _ ⟨hS, h⟩
theorem infoLife : (Tryd.prog.info? 110).map (fun i => (i.zero.map fun v => v.cells.size, i.size, i.bytes)) = some (some 3, 3, 32) := by kernel_rfl
theorem step_no1 {a : Act} {st : Int × Lives} (h : ¬ (st.1 ≤ a.day ∧ a.day ≤ 36500)) : stepA a st = none := by
  unfold stepA
  rw [if_neg (by rw [Bool.and_eq_true, frB_iff]; exact fun q => h q.1)]
theorem step_no2 {a : Act} {st : Int × Lives} (h : wordB a.tag.data.toList = false) : stepA a st = none := by
  unfold stepA
  rw [if_neg (by rw [h]; simp)]
theorem step_no3 {a : Act} {st : Int × Lives} (h : frB a.what 1 5 = false) : stepA a st = none := by
  cases hs : stepA a st with
  | none => rfl
  | some st' =>
    obtain ⟨_, _, p, hp, _⟩ := step_facts hs
    unfold afterM at hp
    split at hp
    · cases hp
    · obtain ⟨t, ht, _⟩ := Option.map_eq_some_iff.1 hp
      have := then_cases ht
      have hf : frB a.what 1 5 = true := frB_iff.2 (by omega)
      rw [hf] at h; cases h
theorem step_yes {a : Act} {st : Int × Lives} (h1 : st.1 ≤ a.day ∧ a.day ≤ 36500) (h2 : wordB a.tag.data.toList = true) : stepA a st = (afterM (lifeL st.2 a.tag.data.toList).1 (lifeL st.2 a.tag.data.toList).2 a.day a.what).map fun l => (a.day, putL st.2 a.tag l) := by
  unfold stepA
  rw [if_pos (by rw [Bool.and_eq_true, frB_iff]; exact ⟨h1, h2⟩)]
theorem texts_row {W : World} {b : Nat} {a : Option Addr} {n c : Nat} {ts : List ByteArray} (h : W.ownsRow b 9 1 (.slice a n c) n (ts.map Value.string)) : ts = [] ∨ ∃ b off, a = some ⟨b, off, none⟩ ∧ ∀ (i : Nat) x, ts[i]? = some x → W.cell? ⟨b, off + i, none⟩ = some (.string x) := by
  have h0 := h
  rcases h.2 with ⟨_, h1⟩ | ⟨g, cap, cur, h1, _, _, _, _, _, _⟩
  · left
    have := h.1
    subst h1
    simpa using this
  · right
    simp only [Value.slice.injEq] at h1
    obtain ⟨rfl, _, rfl⟩ := h1
    refine ⟨g, 0, rfl, fun i x hx => ?_⟩
    have := h0.cells (g := g) rfl i (.string x) (by simp [hx])
    rwa [Addr.add_lit] at this
set_option maxRecDepth 100000 in
set_option maxHeartbeats 8000000 in
theorem refFollow_any (a : Option Addr) (n c : Nat) (l : List Act) (w : World) (hA : Acts w a n l) :
    Calls Tryd.prog 37 #[.slice a n c] w fun e w' =>
      ∃ v1 v2, e = .returned (.tuple #[v1, v2, .int .i64 ((followL l).2.2.1 : Int), .int .i64 (followL l).2.2.2]) ∧ w'.ownsRow w.heap.size 9 1 v1 (followL l).1.length ((followL l).1.map Value.string) ∧
        w'.ownsRow w.heap.size 3 1 v2 (followL l).2.1.length ((followL l).2.1.map (Value.int .i64)) ∧ Below w.heap.size w w' := by
  have HN := Lib.hid hA.len
  have HTG := Lib.hid hA.tags
  have hfit := hA.fits
  have HX : Hid (∀ W, Below w.heap.size w W → Acts W a n l ∧ w.heap.size ≤ W.heap.size) := Lib.hid fun W h => ⟨hA.below h, h.size⟩
  clear hA
  obtain ⟨i0, hi0, hz0, hz1, hz2⟩ := info_parts infoStr
  obtain ⟨j0, hj0, hjz⟩ := Option.map_eq_some_iff.1 infoLife
  simp only [Prod.mk.injEq, Option.map_eq_some_iff] at hjz
  obtain ⟨⟨zl, hzl, hzs⟩, hj1, hj2⟩ := hjz
  obtain ⟨k0, hk0, hkz0, hkz1, hkz2⟩ := info_parts info3
  by_cases h256 : 256 < n
  · have HF : Hid (followL l = ([], [], 0, 3)) := Lib.hid (by unfold followL; rw [if_pos (by rw [← HN.out]; exact h256)])
    have hb1 : decide ((256 : Int) < (n : Int)) = true := by rw [decide_eq_true_iff]; omega
    have hb2 : decide (256 < n) = true := by rw [decide_eq_true_iff]; omega
    clear h256
    go_enter Tryd.func37, Tryd.ntmps37
    go_wp2_with fail
    refine bodyPost_ret (v := .tuple #[.slice none 0 0, .slice none 0 0, .int .i64 0, .int .i64 3]) (by simp [results, Tryd.results37, go_sem]) rfl ⟨.slice none 0 0, .slice none 0 0, ?_⟩
    rw [HF.out]
    exact ⟨rfl, World.ownsRow_nil _ _ _ _, World.ownsRow_nil _ _ _ _, Below.refl _ _⟩
  have hn256 : n ≤ 256 := by omega
  clear h256
  go_enter Tryd.func37, Tryd.ntmps37
  go_wp2_with fail
  go_loopw [6, 7, 8] (fun tv av iv wr => ∃ (i : Nat) (today : Int) (s : Lives) (sl : Nat) (ta : Option Addr) (tc : Nat) (aa : Option Addr) (ac : Nat), i ≤ n ∧ sl ≤ i ∧ iv = .int .i64 i ∧ tv = .slice ta sl tc ∧ av = .slice aa sl ac ∧ Hid (s.length = sl) ∧ Hid (runO (l.take i) (0, []) = some (today, s)) ∧ Hid (wr.ownsRow w.heap.size 9 1 (.slice ta sl tc) sl ((s.map (·.1)).map Value.string)) ∧ Hid (wr.ownsRow w.heap.size 110 3 (.slice aa sl ac) sl (lifeCells s)) ∧ Hid (Below w.heap.size w wr)) (fun _ _ iv _ => n - (intOf iv).toNat)
  case atStart => exact ⟨0, 0, [], 0, none, 0, none, 0, Nat.zero_le _, Nat.zero_le _, rfl, rfl, rfl, Lib.hid rfl, Lib.hid rfl, Lib.hid (World.ownsRow_nil _ _ _ _), Lib.hid (World.ownsRow_nil _ _ _ _), Lib.hid (Below.refl _ _)⟩
  case round =>
    obtain ⟨i, today, s, sl, ta, tc, aa, ac, hin, hsl, rfl, rfl, rfl, HSL, HRO, HT, HL, HB⟩ := hrel
    by_cases hlt : i < n
    case neg =>
      obtain rfl : n = i := by omega
      have hfg : followL l = (s.map (·.1), s.map (·.2.1), n, 0) := by
        have h := HRO.out
        rw [HN.out, List.take_length] at h
        rw [follow_good (by rw [← HN.out]; exact hn256) h, HN.out]
      have HF := Lib.hid hfg
      have hbs := (HX.out _ HB.out).2
      clear hfg
      go_wp2_with fail
      go_loopw [12, 13] (fun ov kv wx => ∃ (j : Nat) (oa : Option Addr) (oc : Nat), j ≤ sl ∧ kv = .int .i64 j ∧ ov = .slice oa j oc ∧ Hid (wx.ownsRow w.heap.size 3 1 (.slice oa j oc) j ((s.take j).map fun p => Value.int .i64 p.2.1)) ∧ Hid (wx.ownsRow w.heap.size 9 1 (.slice ta sl tc) sl ((s.map (·.1)).map Value.string)) ∧ Hid (wx.ownsRow w.heap.size 110 3 (.slice aa sl ac) sl (lifeCells s)) ∧ Hid (Below w.heap.size w wx)) (fun _ kv _ => sl - (intOf kv).toNat)
      case atStart => exact ⟨0, none, 0, Nat.zero_le _, rfl, rfl, Lib.hid (World.ownsRow_nil _ _ _ _), HT, HL, HB⟩
      case round =>
        obtain ⟨j, oa, oc, hj, rfl, rfl, HS, HTx, HLx, HBx⟩ := hrel
        by_cases hjl : j < sl
        · obtain ⟨p, hp⟩ : ∃ p, s[j]? = some p := ⟨_, List.getElem?_eq_getElem (by rw [HSL.out]; exact hjl)⟩
          have htk := Lib.hid (show (s.take (j + 1)).map (fun p => Value.int .i64 p.2.1) = (s.take j).map (fun p => Value.int .i64 p.2.1) ++ [.int .i64 p.2.1] by rw [List.take_add_one, hp]; simp)
          have hrow := HLx.out
          rcases hrow.2 with ⟨_, h0⟩ | ⟨g2, cap2, cur2, h2, _, hgb, _, _, _, _⟩
          · omega
          simp only [Value.slice.injEq] at h2
          obtain ⟨rfl, _, rfl⟩ := h2
          have c1 : wr.cell? ⟨g2, j * 3 + 1, none⟩ = some (.int .i64 p.2.1) := by
            have h := lifeCells_at hp 1 (by omega)
            have := hrow.cells (g := g2) rfl (j * 3 + 1) (.int .i64 p.2.1) h
            rwa [Addr.add_lit, Nat.zero_add] at this
          obtain ⟨tg, st, pl⟩ := p
          dsimp only at htk c1
          clear hp hrow hgb
          go_wp2_with (at_builtin; refine wpList_append_own _ rfl _ _ 30 rfl w.heap.size 3 k0 (.int .i64 0) 1 8 Tryd.underlying30 hk0 hkz0 hkz1 hkz2 rfl (by decide) _ _ _ rfl (HS.out.alloc _) ⟨wr.heap.size, 0, none⟩ 1 1 [.int .i64 st] rfl rfl (cell_one_new _ _ _) (by simp [Value.oneCell']) (by unfold maxLen; omega) (by omega) (by have := HBx.out.size; simp; omega) ?_; intro v2 w2 hown2 hgrow2 _; obtain ⟨va2, vc2, rfl⟩ := row_form hown2)
          go_roundw
          case rel => exact ⟨j + 1, va2, vc2, by omega, by go_num, rfl, Lib.hid (by rw [htk.out]; exact hown2), Lib.hid ((HTx.out.alloc _).kept hgrow2 (rows_apart HTx.out HS.out (by decide))), Lib.hid ((HLx.out.alloc _).kept hgrow2 (rows_apart HLx.out HS.out (by decide))), Lib.hid ((HBx.out.alloc HBx.out.size _).grown hgrow2 (by have := HBx.out.size; simp; omega) (row_ge HS.out))⟩
          case measure => simp [intOf]; omega
        · obtain rfl : j = sl := by omega
          go_wp2_with fail
          refine bodyPost_ret (v := .tuple #[.slice ta j tc, .slice oa j oc, .int .i64 (n : Int), .int .i64 0]) (by simp [results, Tryd.results37, go_sem]) rfl ⟨.slice ta j tc, .slice oa j oc, ?_⟩
          rw [HF.out]
          dsimp only
          have hs2 := HS.out
          rw [← HSL.out, List.take_length] at hs2
          have ht2 := HTx.out
          refine ⟨rfl, ?_, ?_, HBx.out⟩
          · rw [List.length_map, HSL.out]; exact ht2
          · rw [List.length_map, List.map_map, HSL.out]
            rw [HSL.out] at hs2
            exact hs2
    obtain ⟨x, hx⟩ : ∃ x, l[i]? = some x := ⟨_, List.getElem?_eq_getElem (by rw [← HN.out]; exact hlt)⟩
    have hxt := HTG.out x (List.mem_of_getElem? hx)
    have TD := told_run _ _ rfl (today, s) HRO.out
    have hPL := planted_run _ _ rfl (today, s) HRO.out
    have htd := TD.today
    dsimp only at htd
    obtain ⟨x1, x2⟩ := HX.out _ HB.out
    obtain ⟨b, off, ha, hbl, hAc⟩ := x1.at_.resolve_left (fun h => by rw [h] at hx; simp at hx)
    subst ha
    obtain ⟨f0, f1, f2⟩ := hAc i x hx
    have hpd : 0 < i → ∃ y, l[i - 1]? = some y ∧ y.day = today := fun h0 => by
      obtain ⟨y, hy⟩ : ∃ y, l[i - 1]? = some y := ⟨_, List.getElem?_eq_getElem (by rw [← HN.out]; omega)⟩
      refine ⟨y, hy, ?_⟩
      have hgl : (l.take i).getLast? = some y := by
        rw [List.getLast?_eq_getElem?, List.getElem?_take, List.length_take]
        rw [show min i l.length - 1 = i - 1 by rw [← HN.out]; omega, if_pos (by omega)]
        exact hy
      exact (TD.last y hgl).symm
    have hp0 : i = 0 → today = 0 := fun h0 => by
      have := HRO.out
      rw [h0] at this
      have e : ((0 : Int), ([] : Lives)) = (today, s) := Option.some.inj this
      exact (congrArg Prod.fst e).symm
    obtain ⟨dy, tg, wh⟩ := x
    dsimp only at f0 f1 f2 hxt
    have bA := Box.new wr #[.int .i64 dy, .string tg, .int .i64 wh] 70
    have a0 : (wr.alloc (.cells #[.int .i64 dy, .string tg, .int .i64 wh] 70)).cell? ⟨wr.heap.size, 0, none⟩ = some (.int .i64 dy) := bA.cell 0
    have a1 : (wr.alloc (.cells #[.int .i64 dy, .string tg, .int .i64 wh] 70)).cell? ⟨wr.heap.size, 1, none⟩ = some (.string tg) := bA.cell 1
    have a2 : (wr.alloc (.cells #[.int .i64 dy, .string tg, .int .i64 wh] 70)).cell? ⟨wr.heap.size, 2, none⟩ = some (.int .i64 wh) := bA.cell 2
    have hB1 : Below w.heap.size w (wr.alloc (.cells #[.int .i64 dy, .string tg, .int .i64 wh] 70)) := HB.out.alloc x2 _
    have HER : Hid (stepA ⟨dy, tg, wh⟩ (today, s) = none → followL l = ([], [], i, 13)) := Lib.hid fun h => follow_err (by rw [← HN.out]; exact hn256) HRO.out hx h
    have HNX : Hid (∀ st', stepA ⟨dy, tg, wh⟩ (today, s) = some st' → runO (l.take (i + 1)) (0, []) = some st') := Lib.hid fun st' h => run_next HRO.out hx h

    rcases hI1 : frB dy 0 36500 with _ | _
    · have HFE := Lib.hid (HER.out (step_no1 (a := ⟨dy, tg, wh⟩) (st := (today, s)) (fun h => by have h' : today ≤ dy ∧ dy ≤ 36500 := h; rw [frB_iff.2 ⟨by omega, h'.2⟩] at hI1; cases hI1)))
      have HI1 := Lib.hid hI1
      clear hI1
      go_wp2_with fail
      refine region_seq (fun W => ∀ p, W.cell? p = (wr.alloc (.cells #[.int .i64 dy, .string tg, .int .i64 wh] 70)).cell? p) [(0, true), (1, true), (2, false), (3, true), (4, true), (5, true), (6, true), (7, true), (8, true), (9, true), (10, true), (11, true), (12, true), (13, true), (14, true), (15, true), (16, true), (17, true), (18, true), (19, true), (20, true), (21, true), (22, false), (23, true), (24, true), (25, true), (26, true), (27, true), (28, false), (29, true), (30, true)]
        (by kernel_rfl) (by kernel_rfl) (by kernel_rfl) (by simp) (fun _ _ _ _ h => h) (fun _ => rfl) ?_
      (refine SeqW.take (v := ?_) rfl (by rfl) (fun W hW => ?_) ?_; rotate_left; (go_simp; with_reducible rfl); simp only [_root_.Go.Act.put, List.setIfInBounds_toArray, List.set_cons_zero, List.set_cons_succ])
      (refine SeqW.take (v := ?_) rfl (by rfl) (fun W hW => ?_) ?_; rotate_left; (have l0 := (hW _).trans a0; have l1 := (hW _).trans a1; have l2 := (hW _).trans a2; go_simp; with_reducible rfl); simp only [_root_.Go.Act.put, List.setIfInBounds_toArray, List.set_cons_zero, List.set_cons_succ])
      (refine SeqW.call rfl (by rfl) (fun K hK => ?_); go_simp)
      refine (refIn_any _ _ _ _).mono ?_
      rw [HI1.out]
      rintro e w' ⟨rfl, rfl⟩
      go_simp
      refine hK.out _ _ (fun _ => rfl) ?_
      clear hK K
      (refine SeqW.take (v := ?_) rfl (by rfl) (fun W hW => ?_) ?_; rotate_left; (go_simp; with_reducible rfl); simp only [_root_.Go.Act.put, List.setIfInBounds_toArray, List.set_cons_zero, List.set_cons_succ])
      (refine SeqW.take (v := ?_) rfl (by rfl) (fun W hW => ?_) ?_; rotate_left; (go_simp; with_reducible rfl); simp only [_root_.Go.Act.put, List.setIfInBounds_toArray, List.set_cons_zero, List.set_cons_succ])
      (refine SeqW.skip rfl (by rfl) ?_; simp only [_root_.Go.Act.put, List.setIfInBounds_toArray, List.set_cons_zero, List.set_cons_succ])
      (refine SeqW.skip rfl (by rfl) ?_; simp only [_root_.Go.Act.put, List.setIfInBounds_toArray, List.set_cons_zero, List.set_cons_succ])
      (refine SeqW.skip rfl (by rfl) ?_; simp only [_root_.Go.Act.put, List.setIfInBounds_toArray, List.set_cons_zero, List.set_cons_succ])
      (refine SeqW.skip rfl (by rfl) ?_; simp only [_root_.Go.Act.put, List.setIfInBounds_toArray, List.set_cons_zero, List.set_cons_succ])
      (refine SeqW.skip rfl (by rfl) ?_; simp only [_root_.Go.Act.put, List.setIfInBounds_toArray, List.set_cons_zero, List.set_cons_succ])
      (refine SeqW.skip rfl (by rfl) ?_; simp only [_root_.Go.Act.put, List.setIfInBounds_toArray, List.set_cons_zero, List.set_cons_succ])
      (refine SeqW.skip rfl (by rfl) ?_; simp only [_root_.Go.Act.put, List.setIfInBounds_toArray, List.set_cons_zero, List.set_cons_succ])
      (refine SeqW.skip rfl (by rfl) ?_; simp only [_root_.Go.Act.put, List.setIfInBounds_toArray, List.set_cons_zero, List.set_cons_succ])
      (refine SeqW.skip rfl (by rfl) ?_; simp only [_root_.Go.Act.put, List.setIfInBounds_toArray, List.set_cons_zero, List.set_cons_succ])
      (refine SeqW.skip rfl (by rfl) ?_; simp only [_root_.Go.Act.put, List.setIfInBounds_toArray, List.set_cons_zero, List.set_cons_succ])
      (refine SeqW.skip rfl (by rfl) ?_; simp only [_root_.Go.Act.put, List.setIfInBounds_toArray, List.set_cons_zero, List.set_cons_succ])
      (refine SeqW.skip rfl (by rfl) ?_; simp only [_root_.Go.Act.put, List.setIfInBounds_toArray, List.set_cons_zero, List.set_cons_succ])
      (refine SeqW.skip rfl (by rfl) ?_; simp only [_root_.Go.Act.put, List.setIfInBounds_toArray, List.set_cons_zero, List.set_cons_succ])
      (refine SeqW.take (v := ?_) rfl (by rfl) (fun W hW => ?_) ?_; rotate_left; (go_simp; with_reducible rfl); simp only [_root_.Go.Act.put, List.setIfInBounds_toArray, List.set_cons_zero, List.set_cons_succ])
      (refine SeqW.take (v := ?_) rfl (by rfl) (fun W hW => ?_) ?_; rotate_left; (go_simp; with_reducible rfl); simp only [_root_.Go.Act.put, List.setIfInBounds_toArray, List.set_cons_zero, List.set_cons_succ])
      (refine SeqW.skip rfl (by rfl) ?_; simp only [_root_.Go.Act.put, List.setIfInBounds_toArray, List.set_cons_zero, List.set_cons_succ])
      (refine SeqW.skip rfl (by rfl) ?_; simp only [_root_.Go.Act.put, List.setIfInBounds_toArray, List.set_cons_zero, List.set_cons_succ])
      (refine SeqW.callskip rfl (by rfl) (fun _ => rfl) ?_; simp only [_root_.Go.Act.put, List.setIfInBounds_toArray, List.set_cons_zero, List.set_cons_succ])
      (refine SeqW.skip rfl (by rfl) ?_; simp only [_root_.Go.Act.put, List.setIfInBounds_toArray, List.set_cons_zero, List.set_cons_succ])
      (refine SeqW.take (v := ?_) rfl (by rfl) (fun W hW => ?_) ?_; rotate_left; (go_simp; with_reducible rfl); simp only [_root_.Go.Act.put, List.setIfInBounds_toArray, List.set_cons_zero, List.set_cons_succ])
      (refine SeqW.take (v := ?_) rfl (by rfl) (fun W hW => ?_) ?_; rotate_left; (go_simp; with_reducible rfl); simp only [_root_.Go.Act.put, List.setIfInBounds_toArray, List.set_cons_zero, List.set_cons_succ])
      (refine SeqW.skip rfl (by rfl) ?_; simp only [_root_.Go.Act.put, List.setIfInBounds_toArray, List.set_cons_zero, List.set_cons_succ])
      (refine SeqW.skip rfl (by rfl) ?_; simp only [_root_.Go.Act.put, List.setIfInBounds_toArray, List.set_cons_zero, List.set_cons_succ])
      (refine SeqW.callskip rfl (by rfl) (fun _ => rfl) ?_; simp only [_root_.Go.Act.put, List.setIfInBounds_toArray, List.set_cons_zero, List.set_cons_succ])
      (refine SeqW.skip rfl (by rfl) ?_; simp only [_root_.Go.Act.put, List.setIfInBounds_toArray, List.set_cons_zero, List.set_cons_succ])
      (refine SeqW.take (v := ?_) rfl (by rfl) (fun W hW => ?_) ?_; rotate_left; (go_simp; with_reducible rfl); simp only [_root_.Go.Act.put, List.setIfInBounds_toArray, List.set_cons_zero, List.set_cons_succ])
      refine SeqW.done ?_
      go_wp2_with fail
      refine bodyPost_ret (v := .tuple #[.slice none 0 0, .slice none 0 0, .int .i64 (i : Int), .int .i64 13]) (by simp [results, Tryd.results37, go_sem]) rfl ⟨.slice none 0 0, .slice none 0 0, ?_⟩
      rw [HFE.out]
      exact ⟨rfl, World.ownsRow_nil _ _ _ _, World.ownsRow_nil _ _ _ _, hB1.drew⟩
    have hdy := frB_iff.1 hI1
    have HI1 := Lib.hid hI1
    clear hI1
    rcases Nat.eq_zero_or_pos i with hi0 | hi0
    · have ht0 := hp0 hi0
      have hib : decide ((0 : Int) < (i : Int)) = false := by rw [decide_eq_false_iff_not]; omega
      have hib2 : decide (0 < i) = false := by rw [decide_eq_false_iff_not]; omega
      clear hi0 hpd hp0
      rcases hW : wordB tg.data.toList with _ | _
      · have HFE := Lib.hid (HER.out (step_no2 hW))
        have HW := Lib.hid hW
        clear hW
        go_wp2_with fail
        refine region_seq (fun W => ∀ p, W.cell? p = (wr.alloc (.cells #[.int .i64 dy, .string tg, .int .i64 wh] 70)).cell? p) [(0, true), (1, true), (2, false), (3, true), (4, true), (5, true), (6, true), (7, true), (8, true), (9, true), (10, true), (11, true), (12, true), (13, true), (14, true), (15, true), (16, true), (17, true), (18, true), (19, true), (20, true), (21, true), (22, false), (23, true), (24, true), (25, true), (26, true), (27, true), (28, false), (29, true), (30, true)]
          (by kernel_rfl) (by kernel_rfl) (by kernel_rfl) (by simp) (fun _ _ _ _ h => h) (fun _ => rfl) ?_
        (refine SeqW.take (v := ?_) rfl (by rfl) (fun W hW => ?_) ?_; rotate_left; (go_simp; with_reducible rfl); simp only [_root_.Go.Act.put, List.setIfInBounds_toArray, List.set_cons_zero, List.set_cons_succ])
        (refine SeqW.take (v := ?_) rfl (by rfl) (fun W hW => ?_) ?_; rotate_left; (have l0 := (hW _).trans a0; have l1 := (hW _).trans a1; have l2 := (hW _).trans a2; go_simp; with_reducible rfl); simp only [_root_.Go.Act.put, List.setIfInBounds_toArray, List.set_cons_zero, List.set_cons_succ])
        (refine SeqW.call rfl (by rfl) (fun K hK => ?_); go_simp)
        refine (refIn_any _ _ _ _).mono ?_
        rw [HI1.out]
        rintro e w' ⟨rfl, rfl⟩
        go_simp
        refine hK.out _ _ (fun _ => rfl) ?_
        clear hK K
        (refine SeqW.take (v := ?_) rfl (by rfl) (fun W hW => ?_) ?_; rotate_left; (go_simp; with_reducible rfl); simp only [_root_.Go.Act.put, List.setIfInBounds_toArray, List.set_cons_zero, List.set_cons_succ])
        (refine SeqW.take (v := ?_) rfl (by rfl) (fun W hW => ?_) ?_; rotate_left; (go_simp; with_reducible rfl); simp only [_root_.Go.Act.put, List.setIfInBounds_toArray, List.set_cons_zero, List.set_cons_succ])
        (refine SeqW.take (v := ?_) rfl (by rfl) (fun W hW => ?_) ?_; rotate_left; (go_simp; with_reducible rfl); simp only [_root_.Go.Act.put, List.setIfInBounds_toArray, List.set_cons_zero, List.set_cons_succ])
        (refine SeqW.take (v := ?_) rfl (by rfl) (fun W hW => ?_) ?_; rotate_left; (go_simp; with_reducible rfl); simp only [_root_.Go.Act.put, List.setIfInBounds_toArray, List.set_cons_zero, List.set_cons_succ])
        (refine SeqW.take (v := ?_) rfl (by rfl) (fun W hW => ?_) ?_; rotate_left; (go_simp; with_reducible rfl); simp only [_root_.Go.Act.put, List.setIfInBounds_toArray, List.set_cons_zero, List.set_cons_succ])
        (refine SeqW.skip rfl (by rfl) ?_; simp only [_root_.Go.Act.put, List.setIfInBounds_toArray, List.set_cons_zero, List.set_cons_succ])
        (refine SeqW.skip rfl (by rfl) ?_; simp only [_root_.Go.Act.put, List.setIfInBounds_toArray, List.set_cons_zero, List.set_cons_succ])
        (refine SeqW.skip rfl (by rfl) ?_; simp only [_root_.Go.Act.put, List.setIfInBounds_toArray, List.set_cons_zero, List.set_cons_succ])
        (refine SeqW.skip rfl (by rfl) ?_; simp only [_root_.Go.Act.put, List.setIfInBounds_toArray, List.set_cons_zero, List.set_cons_succ])
        (refine SeqW.skip rfl (by rfl) ?_; simp only [_root_.Go.Act.put, List.setIfInBounds_toArray, List.set_cons_zero, List.set_cons_succ])
        (refine SeqW.skip rfl (by rfl) ?_; simp only [_root_.Go.Act.put, List.setIfInBounds_toArray, List.set_cons_zero, List.set_cons_succ])
        (refine SeqW.skip rfl (by rfl) ?_; simp only [_root_.Go.Act.put, List.setIfInBounds_toArray, List.set_cons_zero, List.set_cons_succ])
        (refine SeqW.skip rfl (by rfl) ?_; simp only [_root_.Go.Act.put, List.setIfInBounds_toArray, List.set_cons_zero, List.set_cons_succ])
        (refine SeqW.skip rfl (by rfl) ?_; simp only [_root_.Go.Act.put, List.setIfInBounds_toArray, List.set_cons_zero, List.set_cons_succ])
        (refine SeqW.take (v := ?_) rfl (by rfl) (fun W hW => ?_) ?_; rotate_left; (go_simp; with_reducible rfl); simp only [_root_.Go.Act.put, List.setIfInBounds_toArray, List.set_cons_zero, List.set_cons_succ])
        (refine SeqW.take (v := ?_) rfl (by rfl) (fun W hW => ?_) ?_; rotate_left; (go_simp; with_reducible rfl); simp only [_root_.Go.Act.put, List.setIfInBounds_toArray, List.set_cons_zero, List.set_cons_succ])
        (refine SeqW.take (v := ?_) rfl (by rfl) (fun W hW => ?_) ?_; rotate_left; (go_simp; with_reducible rfl); simp only [_root_.Go.Act.put, List.setIfInBounds_toArray, List.set_cons_zero, List.set_cons_succ])
        (refine SeqW.take (v := ?_) rfl (by rfl) (fun W hW => ?_) ?_; rotate_left; (go_simp; with_reducible rfl); simp only [_root_.Go.Act.put, List.setIfInBounds_toArray, List.set_cons_zero, List.set_cons_succ])
        (refine SeqW.take (v := ?_) rfl (by rfl) (fun W hW => ?_) ?_; rotate_left; (have l0 := (hW _).trans a0; have l1 := (hW _).trans a1; have l2 := (hW _).trans a2; go_simp; with_reducible rfl); simp only [_root_.Go.Act.put, List.setIfInBounds_toArray, List.set_cons_zero, List.set_cons_succ])
        (refine SeqW.call rfl (by rfl) (fun K hK => ?_); go_simp)
        refine (refWord_any _ _ hxt).mono ?_
        rw [HW.out]
        rintro e w' ⟨rfl, rfl⟩
        go_simp
        refine hK.out _ _ (fun _ => rfl) ?_
        clear hK K
        (refine SeqW.take (v := ?_) rfl (by rfl) (fun W hW => ?_) ?_; rotate_left; (go_simp; with_reducible rfl); simp only [_root_.Go.Act.put, List.setIfInBounds_toArray, List.set_cons_zero, List.set_cons_succ])
        (refine SeqW.take (v := ?_) rfl (by rfl) (fun W hW => ?_) ?_; rotate_left; (go_simp; with_reducible rfl); simp only [_root_.Go.Act.put, List.setIfInBounds_toArray, List.set_cons_zero, List.set_cons_succ])
        (refine SeqW.take (v := ?_) rfl (by rfl) (fun W hW => ?_) ?_; rotate_left; (go_simp; with_reducible rfl); simp only [_root_.Go.Act.put, List.setIfInBounds_toArray, List.set_cons_zero, List.set_cons_succ])
        (refine SeqW.skip rfl (by rfl) ?_; simp only [_root_.Go.Act.put, List.setIfInBounds_toArray, List.set_cons_zero, List.set_cons_succ])
        (refine SeqW.skip rfl (by rfl) ?_; simp only [_root_.Go.Act.put, List.setIfInBounds_toArray, List.set_cons_zero, List.set_cons_succ])
        (refine SeqW.callskip rfl (by rfl) (fun _ => rfl) ?_; simp only [_root_.Go.Act.put, List.setIfInBounds_toArray, List.set_cons_zero, List.set_cons_succ])
        (refine SeqW.skip rfl (by rfl) ?_; simp only [_root_.Go.Act.put, List.setIfInBounds_toArray, List.set_cons_zero, List.set_cons_succ])
        (refine SeqW.take (v := ?_) rfl (by rfl) (fun W hW => ?_) ?_; rotate_left; (go_simp; with_reducible rfl); simp only [_root_.Go.Act.put, List.setIfInBounds_toArray, List.set_cons_zero, List.set_cons_succ])
        refine SeqW.done ?_
        go_wp2_with fail
        refine bodyPost_ret (v := .tuple #[.slice none 0 0, .slice none 0 0, .int .i64 (i : Int), .int .i64 13]) (by simp [results, Tryd.results37, go_sem]) rfl ⟨.slice none 0 0, .slice none 0 0, ?_⟩
        rw [HFE.out]
        exact ⟨rfl, World.ownsRow_nil _ _ _ _, World.ownsRow_nil _ _ _ _, hB1.drew⟩
      · rcases hI2 : frB wh 1 5 with _ | _
        · have HFE := Lib.hid (HER.out (step_no3 hI2))
          have HW := Lib.hid hW
          have HI2 := Lib.hid hI2
          clear hW hI2
          go_wp2_with fail
          refine region_seq (fun W => ∀ p, W.cell? p = (wr.alloc (.cells #[.int .i64 dy, .string tg, .int .i64 wh] 70)).cell? p) [(0, true), (1, true), (2, false), (3, true), (4, true), (5, true), (6, true), (7, true), (8, true), (9, true), (10, true), (11, true), (12, true), (13, true), (14, true), (15, true), (16, true), (17, true), (18, true), (19, true), (20, true), (21, true), (22, false), (23, true), (24, true), (25, true), (26, true), (27, true), (28, false), (29, true), (30, true)]
            (by kernel_rfl) (by kernel_rfl) (by kernel_rfl) (by simp) (fun _ _ _ _ h => h) (fun _ => rfl) ?_
          (refine SeqW.take (v := ?_) rfl (by rfl) (fun W hW => ?_) ?_; rotate_left; (go_simp; with_reducible rfl); simp only [_root_.Go.Act.put, List.setIfInBounds_toArray, List.set_cons_zero, List.set_cons_succ])
          (refine SeqW.take (v := ?_) rfl (by rfl) (fun W hW => ?_) ?_; rotate_left; (have l0 := (hW _).trans a0; have l1 := (hW _).trans a1; have l2 := (hW _).trans a2; go_simp; with_reducible rfl); simp only [_root_.Go.Act.put, List.setIfInBounds_toArray, List.set_cons_zero, List.set_cons_succ])
          (refine SeqW.call rfl (by rfl) (fun K hK => ?_); go_simp)
          refine (refIn_any _ _ _ _).mono ?_
          rw [HI1.out]
          rintro e w' ⟨rfl, rfl⟩
          go_simp
          refine hK.out _ _ (fun _ => rfl) ?_
          clear hK K
          (refine SeqW.take (v := ?_) rfl (by rfl) (fun W hW => ?_) ?_; rotate_left; (go_simp; with_reducible rfl); simp only [_root_.Go.Act.put, List.setIfInBounds_toArray, List.set_cons_zero, List.set_cons_succ])
          (refine SeqW.take (v := ?_) rfl (by rfl) (fun W hW => ?_) ?_; rotate_left; (go_simp; with_reducible rfl); simp only [_root_.Go.Act.put, List.setIfInBounds_toArray, List.set_cons_zero, List.set_cons_succ])
          (refine SeqW.take (v := ?_) rfl (by rfl) (fun W hW => ?_) ?_; rotate_left; (go_simp; with_reducible rfl); simp only [_root_.Go.Act.put, List.setIfInBounds_toArray, List.set_cons_zero, List.set_cons_succ])
          (refine SeqW.take (v := ?_) rfl (by rfl) (fun W hW => ?_) ?_; rotate_left; (go_simp; with_reducible rfl); simp only [_root_.Go.Act.put, List.setIfInBounds_toArray, List.set_cons_zero, List.set_cons_succ])
          (refine SeqW.take (v := ?_) rfl (by rfl) (fun W hW => ?_) ?_; rotate_left; (go_simp; with_reducible rfl); simp only [_root_.Go.Act.put, List.setIfInBounds_toArray, List.set_cons_zero, List.set_cons_succ])
          (refine SeqW.skip rfl (by rfl) ?_; simp only [_root_.Go.Act.put, List.setIfInBounds_toArray, List.set_cons_zero, List.set_cons_succ])
          (refine SeqW.skip rfl (by rfl) ?_; simp only [_root_.Go.Act.put, List.setIfInBounds_toArray, List.set_cons_zero, List.set_cons_succ])
          (refine SeqW.skip rfl (by rfl) ?_; simp only [_root_.Go.Act.put, List.setIfInBounds_toArray, List.set_cons_zero, List.set_cons_succ])
          (refine SeqW.skip rfl (by rfl) ?_; simp only [_root_.Go.Act.put, List.setIfInBounds_toArray, List.set_cons_zero, List.set_cons_succ])
          (refine SeqW.skip rfl (by rfl) ?_; simp only [_root_.Go.Act.put, List.setIfInBounds_toArray, List.set_cons_zero, List.set_cons_succ])
          (refine SeqW.skip rfl (by rfl) ?_; simp only [_root_.Go.Act.put, List.setIfInBounds_toArray, List.set_cons_zero, List.set_cons_succ])
          (refine SeqW.skip rfl (by rfl) ?_; simp only [_root_.Go.Act.put, List.setIfInBounds_toArray, List.set_cons_zero, List.set_cons_succ])
          (refine SeqW.skip rfl (by rfl) ?_; simp only [_root_.Go.Act.put, List.setIfInBounds_toArray, List.set_cons_zero, List.set_cons_succ])
          (refine SeqW.skip rfl (by rfl) ?_; simp only [_root_.Go.Act.put, List.setIfInBounds_toArray, List.set_cons_zero, List.set_cons_succ])
          (refine SeqW.take (v := ?_) rfl (by rfl) (fun W hW => ?_) ?_; rotate_left; (go_simp; with_reducible rfl); simp only [_root_.Go.Act.put, List.setIfInBounds_toArray, List.set_cons_zero, List.set_cons_succ])
          (refine SeqW.take (v := ?_) rfl (by rfl) (fun W hW => ?_) ?_; rotate_left; (go_simp; with_reducible rfl); simp only [_root_.Go.Act.put, List.setIfInBounds_toArray, List.set_cons_zero, List.set_cons_succ])
          (refine SeqW.take (v := ?_) rfl (by rfl) (fun W hW => ?_) ?_; rotate_left; (go_simp; with_reducible rfl); simp only [_root_.Go.Act.put, List.setIfInBounds_toArray, List.set_cons_zero, List.set_cons_succ])
          (refine SeqW.take (v := ?_) rfl (by rfl) (fun W hW => ?_) ?_; rotate_left; (go_simp; with_reducible rfl); simp only [_root_.Go.Act.put, List.setIfInBounds_toArray, List.set_cons_zero, List.set_cons_succ])
          (refine SeqW.take (v := ?_) rfl (by rfl) (fun W hW => ?_) ?_; rotate_left; (have l0 := (hW _).trans a0; have l1 := (hW _).trans a1; have l2 := (hW _).trans a2; go_simp; with_reducible rfl); simp only [_root_.Go.Act.put, List.setIfInBounds_toArray, List.set_cons_zero, List.set_cons_succ])
          (refine SeqW.call rfl (by rfl) (fun K hK => ?_); go_simp)
          refine (refWord_any _ _ hxt).mono ?_
          rw [HW.out]
          rintro e w' ⟨rfl, rfl⟩
          go_simp
          refine hK.out _ _ (fun _ => rfl) ?_
          clear hK K
          (refine SeqW.take (v := ?_) rfl (by rfl) (fun W hW => ?_) ?_; rotate_left; (go_simp; with_reducible rfl); simp only [_root_.Go.Act.put, List.setIfInBounds_toArray, List.set_cons_zero, List.set_cons_succ])
          (refine SeqW.take (v := ?_) rfl (by rfl) (fun W hW => ?_) ?_; rotate_left; (go_simp; with_reducible rfl); simp only [_root_.Go.Act.put, List.setIfInBounds_toArray, List.set_cons_zero, List.set_cons_succ])
          (refine SeqW.take (v := ?_) rfl (by rfl) (fun W hW => ?_) ?_; rotate_left; (go_simp; with_reducible rfl); simp only [_root_.Go.Act.put, List.setIfInBounds_toArray, List.set_cons_zero, List.set_cons_succ])
          (refine SeqW.take (v := ?_) rfl (by rfl) (fun W hW => ?_) ?_; rotate_left; (go_simp; with_reducible rfl); simp only [_root_.Go.Act.put, List.setIfInBounds_toArray, List.set_cons_zero, List.set_cons_succ])
          (refine SeqW.take (v := ?_) rfl (by rfl) (fun W hW => ?_) ?_; rotate_left; (have l0 := (hW _).trans a0; have l1 := (hW _).trans a1; have l2 := (hW _).trans a2; go_simp; with_reducible rfl); simp only [_root_.Go.Act.put, List.setIfInBounds_toArray, List.set_cons_zero, List.set_cons_succ])
          (refine SeqW.call rfl (by rfl) (fun K hK => ?_); go_simp)
          refine (refIn_any _ _ _ _).mono ?_
          rw [HI2.out]
          rintro e w' ⟨rfl, rfl⟩
          go_simp
          refine hK.out _ _ (fun _ => rfl) ?_
          clear hK K
          (refine SeqW.take (v := ?_) rfl (by rfl) (fun W hW => ?_) ?_; rotate_left; (go_simp; with_reducible rfl); simp only [_root_.Go.Act.put, List.setIfInBounds_toArray, List.set_cons_zero, List.set_cons_succ])
          (refine SeqW.take (v := ?_) rfl (by rfl) (fun W hW => ?_) ?_; rotate_left; (go_simp; with_reducible rfl); simp only [_root_.Go.Act.put, List.setIfInBounds_toArray, List.set_cons_zero, List.set_cons_succ])
          refine SeqW.done ?_
          go_wp2_with fail
          refine bodyPost_ret (v := .tuple #[.slice none 0 0, .slice none 0 0, .int .i64 (i : Int), .int .i64 13]) (by simp [results, Tryd.results37, go_sem]) rfl ⟨.slice none 0 0, .slice none 0 0, ?_⟩
          rw [HFE.out]
          exact ⟨rfl, World.ownsRow_nil _ _ _ _, World.ownsRow_nil _ _ _ _, hB1.drew⟩
        · have hwh := frB_iff.1 hI2
          have HST := Lib.hid (step_yes (a := ⟨dy, tg, wh⟩) (st := (today, s)) ⟨by dsimp only; omega, hdy.2⟩ hW)
          have HW := Lib.hid hW
          have HI2 := Lib.hid hI2
          clear hW hI2
          go_wp2_with fail
          refine region_seq (fun W => ∀ p, W.cell? p = (wr.alloc (.cells #[.int .i64 dy, .string tg, .int .i64 wh] 70)).cell? p) [(0, true), (1, true), (2, false), (3, true), (4, true), (5, true), (6, true), (7, true), (8, true), (9, true), (10, true), (11, true), (12, true), (13, true), (14, true), (15, true), (16, true), (17, true), (18, true), (19, true), (20, true), (21, true), (22, false), (23, true), (24, true), (25, true), (26, true), (27, true), (28, false), (29, true), (30, true)]
            (by kernel_rfl) (by kernel_rfl) (by kernel_rfl) (by simp) (fun _ _ _ _ h => h) (fun _ => rfl) ?_
          (refine SeqW.take (v := ?_) rfl (by rfl) (fun W hW => ?_) ?_; rotate_left; (go_simp; with_reducible rfl); simp only [_root_.Go.Act.put, List.setIfInBounds_toArray, List.set_cons_zero, List.set_cons_succ])
          (refine SeqW.take (v := ?_) rfl (by rfl) (fun W hW => ?_) ?_; rotate_left; (have l0 := (hW _).trans a0; have l1 := (hW _).trans a1; have l2 := (hW _).trans a2; go_simp; with_reducible rfl); simp only [_root_.Go.Act.put, List.setIfInBounds_toArray, List.set_cons_zero, List.set_cons_succ])
          (refine SeqW.call rfl (by rfl) (fun K hK => ?_); go_simp)
          refine (refIn_any _ _ _ _).mono ?_
          rw [HI1.out]
          rintro e w' ⟨rfl, rfl⟩
          go_simp
          refine hK.out _ _ (fun _ => rfl) ?_
          clear hK K
          (refine SeqW.take (v := ?_) rfl (by rfl) (fun W hW => ?_) ?_; rotate_left; (go_simp; with_reducible rfl); simp only [_root_.Go.Act.put, List.setIfInBounds_toArray, List.set_cons_zero, List.set_cons_succ])
          (refine SeqW.take (v := ?_) rfl (by rfl) (fun W hW => ?_) ?_; rotate_left; (go_simp; with_reducible rfl); simp only [_root_.Go.Act.put, List.setIfInBounds_toArray, List.set_cons_zero, List.set_cons_succ])
          (refine SeqW.take (v := ?_) rfl (by rfl) (fun W hW => ?_) ?_; rotate_left; (go_simp; with_reducible rfl); simp only [_root_.Go.Act.put, List.setIfInBounds_toArray, List.set_cons_zero, List.set_cons_succ])
          (refine SeqW.take (v := ?_) rfl (by rfl) (fun W hW => ?_) ?_; rotate_left; (go_simp; with_reducible rfl); simp only [_root_.Go.Act.put, List.setIfInBounds_toArray, List.set_cons_zero, List.set_cons_succ])
          (refine SeqW.take (v := ?_) rfl (by rfl) (fun W hW => ?_) ?_; rotate_left; (go_simp; with_reducible rfl); simp only [_root_.Go.Act.put, List.setIfInBounds_toArray, List.set_cons_zero, List.set_cons_succ])
          (refine SeqW.skip rfl (by rfl) ?_; simp only [_root_.Go.Act.put, List.setIfInBounds_toArray, List.set_cons_zero, List.set_cons_succ])
          (refine SeqW.skip rfl (by rfl) ?_; simp only [_root_.Go.Act.put, List.setIfInBounds_toArray, List.set_cons_zero, List.set_cons_succ])
          (refine SeqW.skip rfl (by rfl) ?_; simp only [_root_.Go.Act.put, List.setIfInBounds_toArray, List.set_cons_zero, List.set_cons_succ])
          (refine SeqW.skip rfl (by rfl) ?_; simp only [_root_.Go.Act.put, List.setIfInBounds_toArray, List.set_cons_zero, List.set_cons_succ])
          (refine SeqW.skip rfl (by rfl) ?_; simp only [_root_.Go.Act.put, List.setIfInBounds_toArray, List.set_cons_zero, List.set_cons_succ])
          (refine SeqW.skip rfl (by rfl) ?_; simp only [_root_.Go.Act.put, List.setIfInBounds_toArray, List.set_cons_zero, List.set_cons_succ])
          (refine SeqW.skip rfl (by rfl) ?_; simp only [_root_.Go.Act.put, List.setIfInBounds_toArray, List.set_cons_zero, List.set_cons_succ])
          (refine SeqW.skip rfl (by rfl) ?_; simp only [_root_.Go.Act.put, List.setIfInBounds_toArray, List.set_cons_zero, List.set_cons_succ])
          (refine SeqW.skip rfl (by rfl) ?_; simp only [_root_.Go.Act.put, List.setIfInBounds_toArray, List.set_cons_zero, List.set_cons_succ])
          (refine SeqW.take (v := ?_) rfl (by rfl) (fun W hW => ?_) ?_; rotate_left; (go_simp; with_reducible rfl); simp only [_root_.Go.Act.put, List.setIfInBounds_toArray, List.set_cons_zero, List.set_cons_succ])
          (refine SeqW.take (v := ?_) rfl (by rfl) (fun W hW => ?_) ?_; rotate_left; (go_simp; with_reducible rfl); simp only [_root_.Go.Act.put, List.setIfInBounds_toArray, List.set_cons_zero, List.set_cons_succ])
          (refine SeqW.take (v := ?_) rfl (by rfl) (fun W hW => ?_) ?_; rotate_left; (go_simp; with_reducible rfl); simp only [_root_.Go.Act.put, List.setIfInBounds_toArray, List.set_cons_zero, List.set_cons_succ])
          (refine SeqW.take (v := ?_) rfl (by rfl) (fun W hW => ?_) ?_; rotate_left; (go_simp; with_reducible rfl); simp only [_root_.Go.Act.put, List.setIfInBounds_toArray, List.set_cons_zero, List.set_cons_succ])
          (refine SeqW.take (v := ?_) rfl (by rfl) (fun W hW => ?_) ?_; rotate_left; (have l0 := (hW _).trans a0; have l1 := (hW _).trans a1; have l2 := (hW _).trans a2; go_simp; with_reducible rfl); simp only [_root_.Go.Act.put, List.setIfInBounds_toArray, List.set_cons_zero, List.set_cons_succ])
          (refine SeqW.call rfl (by rfl) (fun K hK => ?_); go_simp)
          refine (refWord_any _ _ hxt).mono ?_
          rw [HW.out]
          rintro e w' ⟨rfl, rfl⟩
          go_simp
          refine hK.out _ _ (fun _ => rfl) ?_
          clear hK K
          (refine SeqW.take (v := ?_) rfl (by rfl) (fun W hW => ?_) ?_; rotate_left; (go_simp; with_reducible rfl); simp only [_root_.Go.Act.put, List.setIfInBounds_toArray, List.set_cons_zero, List.set_cons_succ])
          (refine SeqW.take (v := ?_) rfl (by rfl) (fun W hW => ?_) ?_; rotate_left; (go_simp; with_reducible rfl); simp only [_root_.Go.Act.put, List.setIfInBounds_toArray, List.set_cons_zero, List.set_cons_succ])
          (refine SeqW.take (v := ?_) rfl (by rfl) (fun W hW => ?_) ?_; rotate_left; (go_simp; with_reducible rfl); simp only [_root_.Go.Act.put, List.setIfInBounds_toArray, List.set_cons_zero, List.set_cons_succ])
          (refine SeqW.take (v := ?_) rfl (by rfl) (fun W hW => ?_) ?_; rotate_left; (go_simp; with_reducible rfl); simp only [_root_.Go.Act.put, List.setIfInBounds_toArray, List.set_cons_zero, List.set_cons_succ])
          (refine SeqW.take (v := ?_) rfl (by rfl) (fun W hW => ?_) ?_; rotate_left; (have l0 := (hW _).trans a0; have l1 := (hW _).trans a1; have l2 := (hW _).trans a2; go_simp; with_reducible rfl); simp only [_root_.Go.Act.put, List.setIfInBounds_toArray, List.set_cons_zero, List.set_cons_succ])
          (refine SeqW.call rfl (by rfl) (fun K hK => ?_); go_simp)
          refine (refIn_any _ _ _ _).mono ?_
          rw [HI2.out]
          rintro e w' ⟨rfl, rfl⟩
          go_simp
          refine hK.out _ _ (fun _ => rfl) ?_
          clear hK K
          (refine SeqW.take (v := ?_) rfl (by rfl) (fun W hW => ?_) ?_; rotate_left; (go_simp; with_reducible rfl); simp only [_root_.Go.Act.put, List.setIfInBounds_toArray, List.set_cons_zero, List.set_cons_succ])
          (refine SeqW.take (v := ?_) rfl (by rfl) (fun W hW => ?_) ?_; rotate_left; (go_simp; with_reducible rfl); simp only [_root_.Go.Act.put, List.setIfInBounds_toArray, List.set_cons_zero, List.set_cons_succ])
          refine SeqW.done ?_
          go_wp2_with fail
          have HTw := Lib.hid ((HT.out.alloc (.cells #[.int .i64 dy, .string tg, .int .i64 wh] 70)).drew)
          have HLw := Lib.hid ((HL.out.alloc (.cells #[.int .i64 dy, .string tg, .int .i64 wh] 70)).drew)
          have HBw := Lib.hid hB1.drew
          have ca0 : (wr.alloc (.cells #[.int .i64 dy, .string tg, .int .i64 wh] 70)).drew.cell? ⟨wr.heap.size, 0, none⟩ = some (.int .i64 dy) := a0
          have ca1 : (wr.alloc (.cells #[.int .i64 dy, .string tg, .int .i64 wh] 70)).drew.cell? ⟨wr.heap.size, 1, none⟩ = some (.string tg) := a1
          have ca2 : (wr.alloc (.cells #[.int .i64 dy, .string tg, .int .i64 wh] 70)).drew.cell? ⟨wr.heap.size, 2, none⟩ = some (.int .i64 wh) := a2
          have hsz : wr.heap.size < (wr.alloc (.cells #[.int .i64 dy, .string tg, .int .i64 wh] 70)).drew.heap.size := by simp
          have bAw : Box (wr.alloc (.cells #[.int .i64 dy, .string tg, .int .i64 wh] 70)).drew wr.heap.size #[.int .i64 dy, .string tg, .int .i64 wh] 70 := bA
          obtain ⟨wc, hwc⟩ : ∃ wc, (wr.alloc (.cells #[.int .i64 dy, .string tg, .int .i64 wh] 70)).drew = wc := ⟨_, rfl⟩
          rw [hwc] at HTw HLw HBw ca0 ca1 ca2 hsz bAw ⊢
          have hps := posOf_range (s.map (·.1)) tg (s.map (·.1)).length
          have hpn := @posOf_none (s.map (·.1)) tg (s.map (·.1)).length
          have hpm := @posOf_some (s.map (·.1)) tg (s.map (·.1)).length
          obtain ⟨kk, hkk⟩ : ∃ z, posOf (s.map (·.1)) tg (s.map (·.1)).length = z := ⟨_, rfl⟩
          rw [hkk] at hps hpn hpm
          have HKK := Lib.hid hkk
          clear hkk a0 a1 a2 hB1 HI1 HW HI2 hwc f0 f1 f2
          refine (refAtText_any ta sl tc (s.map (·.1)) tg _ (by rw [List.length_map]; exact HSL.out.symm) (by omega) (texts_row HTw.out)).mono ?_
          rw [HKK.out]
          rintro e w' ⟨rfl, rfl⟩
          rw [List.length_map] at hps
          rcases hps with rfl | ⟨hk0, hk1⟩
          · have hun : ∀ p ∈ s, p.1.data.toList ≠ tg.data.toList := fun p hp => by
              obtain ⟨j, hj⟩ := List.mem_iff_getElem?.1 hp
              exact hpn rfl j p.1 (by rw [List.length_map]; exact (List.getElem?_eq_some_iff.1 hj).1) (by rw [List.getElem?_map, hj]; rfl)
            obtain ⟨hlf, _⟩ := put_unknown hun (0, 0)
            have hpu2 := fun l' => (put_unknown hun l').2
            obtain ⟨sx, hsx0⟩ : ∃ z : Int, z = 0 := ⟨0, rfl⟩
            obtain ⟨px, hpx0⟩ : ∃ z : Int, z = 0 := ⟨0, rfl⟩
            have HLF : Hid (lifeL s tg.data.toList = (sx, px)) := Lib.hid (by rw [hsx0, hpx0]; exact hlf)
            have HPU : Hid (∀ l', putL s tg l' = (s ++ [(tg, (sx, px))]).set sl (tg, l')) := Lib.hid fun l' => by rw [← HSL.out, hsx0, hpx0]; exact hpu2 l'
            have HSL1 : Hid ((s ++ [(tg, (sx, px))]).length = sl + 1) := Lib.hid (by rw [List.length_append, HSL.out]; rfl)
            have HPP : Hid ((s ++ [(tg, (sx, px))])[sl]? = some (tg, (sx, px))) := Lib.hid (by rw [← HSL.out]; simp)
            have hsx : 0 ≤ sx ∧ sx ≤ 4 := by omega
            have hpx : 0 ≤ px ∧ px ≤ 36500 := by omega
            have HS0 := Lib.hid hsx0
            have HP0 := Lib.hid hpx0
            have hkl : sl < sl + 1 := by omega
            clear hpn hpm hun hlf hpu2 hsx0 hpx0 ca0 ca1 ca2
            go_wp2_with fail
            refine region_planS (fun W => Box W wr.heap.size #[.int .i64 dy, .string tg, .int .i64 wh] 70) (.take 0 (.take 1 (.take 2 (.take 5 (.take 6 (.take 7 (.take 8 (.two 3 9 (.two 4 9 (.one 9 (.one 10 (.take 11 (.take 12 .done)))) (.one 4 (.one 10 (.take 11 (.take 12 .done))))) (.one 3 (.one 4 (.one 10 (.take 11 (.take 12 .done))))))))))))) (by kernel_rfl) (by kernel_rfl) (by kernel_rfl) (by simp [Plan.depth]) (fun _ _ _ _ h => h) bAw.drew ?_
            (refine PlanS.free (v := ?_) rfl (by rfl) (fun W hW => ?_) ?_; rotate_left; (go_simp; with_reducible rfl); simp only [_root_.Go.Act.put, List.setIfInBounds_toArray, List.set_cons_zero, List.set_cons_succ])
            (refine PlanS.free (v := ?_) rfl (by rfl) (fun W hW => ?_) ?_; rotate_left; (go_simp; with_reducible rfl); simp only [_root_.Go.Act.put, List.setIfInBounds_toArray, List.set_cons_zero, List.set_cons_succ])
            (refine PlanS.free (v := ?_) rfl (by rfl) (fun W hW => ?_) ?_; rotate_left; (have l1 : W.cell? ⟨wr.heap.size, 1, none⟩ = some (.string tg) := hW.cell 1; go_simp; with_reducible rfl); simp only [_root_.Go.Act.put, List.setIfInBounds_toArray, List.set_cons_zero, List.set_cons_succ])
            (refine PlanS.free (v := ?_) rfl (by rfl) (fun W hW => ?_) ?_; rotate_left; (go_simp; with_reducible rfl); simp only [_root_.Go.Act.put, List.setIfInBounds_toArray, List.set_cons_zero, List.set_cons_succ])
            (refine PlanS.free (v := ?_) rfl (by rfl) (fun W hW => ?_) ?_; rotate_left; (go_simp; with_reducible rfl); simp only [_root_.Go.Act.put, List.setIfInBounds_toArray, List.set_cons_zero, List.set_cons_succ])
            (refine PlanS.free (v := ?_) rfl (by rfl) (fun W hW => ?_) ?_; rotate_left; (have l1 : W.cell? ⟨wr.heap.size, 1, none⟩ = some (.string tg) := hW.cell 1; go_simp; with_reducible rfl); simp only [_root_.Go.Act.put, List.setIfInBounds_toArray, List.set_cons_zero, List.set_cons_succ])
            (refine PlanS.free (v := ?_) rfl (by rfl) (fun W hW => ?_) ?_; rotate_left; (go_simp; with_reducible rfl); simp only [_root_.Go.Act.put, List.setIfInBounds_toArray, List.set_cons_zero, List.set_cons_succ])
            refine ⟨?_, ?_⟩
            · skip
              have rs0 := (HTw.out).alloc (.cells #[.string tg] 9)
              have rl0 := (HLw.out).alloc (.cells #[.string tg] 9)
              have bx0 := (bAw).alloc (.cells #[.string tg] 9)
              have be0 := (HBw.out).alloc (HBw.out).size (.cells #[.string tg] 9)
              have tt0 := Box.new (wc) #[.string tg] 9
              try simp only [World.size_drew, World.size_alloc] at tt0
              (refine wpOp_planS rfl (by rfl) (fun K hK => ?_); go_simp)
              refine hK.out _ _ bx0 ?_
              clear hK K
              refine ⟨?_, ?_⟩
              · skip
                refine wpOp_planS rfl (by rfl) (fun K hK => ?_)
                refine wp_append_own _ (.tmp 67) (.tmp 70) 51 rfl w.heap.size 9 i0 (.string ⟨#[]⟩) 1 16 Tryd.underlying51 hi0 hz0 hz1 hz2 rfl (by decide) (.slice ta sl tc) sl ((s.map (·.1)).map Value.string) rfl ((rs0).drew) ⟨wc.heap.size, 0, none⟩ 1 1 [.string tg] rfl (by rfl) (fun j x hx => by rw [Addr.add_lit, Nat.zero_add, ((tt0).drew).cell]; simpa using hx) (by simp [Value.oneCell']) (by unfold maxLen; omega) (by omega) ((be0).drew).size ?_
                intro v' wv hown hgrow _
                obtain ⟨ta1, tc1, rfl⟩ := row_form hown
                have rl1 := ((rl0).drew).kept hgrow (rows_apart ((rl0).drew) ((rs0).drew) (by decide))
                have bx1 : Box wv wr.heap.size #[.int .i64 dy, .string tg, .int .i64 wh] 70 := (hgrow.block _ ((bx0).drew).lt (box_not ((bx0).drew) ((rs0).drew) (by decide))).trans ((bx0).drew)
                have be1 := ((be0).drew).grown hgrow ((be0).drew).size (row_ge ((rs0).drew))
                have rs1 := hown
                refine hK.out _ _ bx1 ?_
                clear hK K
                have rs2 := (rs1).alloc (.cells #[.string tg, .int .i64 0, .int .i64 0] 110)
                have rl2 := (rl1).alloc (.cells #[.string tg, .int .i64 0, .int .i64 0] 110)
                have bx2 := (bx1).alloc (.cells #[.string tg, .int .i64 0, .int .i64 0] 110)
                have be2 := (be1).alloc (be1).size (.cells #[.string tg, .int .i64 0, .int .i64 0] 110)
                have tt2 := Box.new (wv) #[.string tg, .int .i64 0, .int .i64 0] 110
                try simp only [World.size_drew, World.size_alloc] at tt2
                have to2 := (tt0).alloc (.cells #[.string tg, .int .i64 0, .int .i64 0] 110)
                (refine PlanS.call rfl (by rfl) (fun K hK => ?_); go_simp)
                refine hK.out _ _ bx2 ?_
                clear hK K
                refine PlanS.call rfl (by rfl) (fun K hK => ?_)
                refine wp_append_own _ (.tmp 72) (.tmp 76) 107 rfl w.heap.size 110 j0 zl 3 32 Tryd.underlying107 hj0 hzl hj1 hj2 hzs (by decide) (.slice aa sl ac) sl (lifeCells s) rfl (rl2) ⟨wv.heap.size, 0, none⟩ 1 1 [.string tg, .int .i64 0, .int .i64 0] rfl (by rfl) (fun j x hx => by rw [Addr.add_lit, Nat.zero_add, (tt2).cell]; simpa using hx) (by simp [Value.oneCell']) (by unfold maxLen; omega) (by omega) (be2).size ?_
                intro v' wc hown hgrow _
                obtain ⟨aa1, ac1, rfl⟩ := row_form hown
                have rs3 := (rs2).kept hgrow (rows_apart (rs2) (rl2) (by decide))
                have bx3 : Box wc wr.heap.size #[.int .i64 dy, .string tg, .int .i64 wh] 70 := (hgrow.block _ (bx2).lt (box_not (bx2) (rl2) (by decide))).trans (bx2)
                have be3 := (be2).grown hgrow (be2).size (row_ge (rl2))
                have rl3 := hown
                refine hK.out _ _ bx3 ?_
                clear hK K
                (refine PlanS.free (v := ?_) rfl (by rfl) (fun W hW => ?_) ?_; rotate_left; (go_simp; with_reducible rfl); simp only [_root_.Go.Act.put, List.setIfInBounds_toArray, List.set_cons_zero, List.set_cons_succ])
                (refine PlanS.free (v := ?_) rfl (by rfl) (fun W hW => ?_) ?_; rotate_left; (go_simp; with_reducible rfl); simp only [_root_.Go.Act.put, List.setIfInBounds_toArray, List.set_cons_zero, List.set_cons_succ])
                refine PlanS.end' ?_
                have HTw : Hid (wc.ownsRow w.heap.size 9 1 (.slice ta1 (sl + 1) tc1) (sl + 1) (((s ++ [(tg, (sx, px))]).map (·.1)).map Value.string)) := Lib.hid (by rw [List.map_append, List.map_append]; exact rs3)
                have HLw : Hid (wc.ownsRow w.heap.size 110 3 (.slice aa1 (sl + 1) ac1) (sl + 1) (lifeCells (s ++ [(tg, (sx, px))]))) := Lib.hid (by rw [lifeCells_snoc, HS0.out, HP0.out]; exact rl3)
                have HBw := Lib.hid (be3)
                have ca0 : wc.cell? ⟨wr.heap.size, 0, none⟩ = some (.int .i64 dy) := (bx3).cell 0
                have ca1 : wc.cell? ⟨wr.heap.size, 1, none⟩ = some (.string tg) := (bx3).cell 1
                have ca2 : wc.cell? ⟨wr.heap.size, 2, none⟩ = some (.int .i64 wh) := (bx3).cell 2
                have hsz : wr.heap.size < wc.heap.size := (bx3).lt
                have hrow := HLw.out
                rcases hrow.2 with ⟨_, h0⟩ | ⟨g2, cap2, cur2, h2, _, hgb, _, _, _, _⟩
                · omega
                simp only [Value.slice.injEq] at h2
                obtain ⟨rfl, _, rfl⟩ := h2
                have hg2l : g2 < wc.heap.size := lt_of_block hgb
                have lc : ∀ j, j < 3 → wc.cell? ⟨g2, sl * 3 + j, none⟩ = ([.string tg, .int .i64 sx, .int .i64 px] : List Value)[j]? := fun j hj => by
                  have h := lifeCells_at HPP.out j hj
                  cases e : ([.string tg, .int .i64 sx, .int .i64 px] : List Value)[j]? with
                  | none => match j, hj with
                    | 0, _ => cases e
                    | 1, _ => cases e
                    | 2, _ => cases e
                  | some v =>
                    rw [e] at h
                    have := hrow.cells (g := g2) rfl (sl * 3 + j) v h
                    rwa [Addr.add_lit, Nat.zero_add] at this
                have c0 : wc.cell? ⟨g2, sl * 3, none⟩ = some (.string tg) := lc 0 (by omega)
                have c1 : wc.cell? ⟨g2, sl * 3 + 1, none⟩ = some (.int .i64 sx) := lc 1 (by omega)
                have c2 : wc.cell? ⟨g2, sl * 3 + 2, none⟩ = some (.int .i64 px) := lc 2 (by omega)
                have q0 : wc.frozen? ⟨g2, sl * 3, none⟩ = false := hrow.frozenAt _
                have q1 : wc.frozen? ⟨g2, sl * 3 + 1, none⟩ = false := hrow.frozenAt _
                have q2 : wc.frozen? ⟨g2, sl * 3 + 2, none⟩ = false := hrow.frozenAt _
                have hgne : g2 ≠ wc.heap.size := by omega
                have hane : wr.heap.size ≠ wc.heap.size := by omega
                have HAP : Hid ((Value.slice ta1 (sl + 1) tc1).ownBlock ≠ some g2) := Lib.hid fun e => by
                  rcases rows_apart HTw.out HLw.out (by decide) with q | q
                  · rw [q] at e; cases e
                  · exact q (e.trans rfl)
                have hws : IntKind.i64.wrap (dy - px) = dy - px := by rw [IntKind.wrap_i64]; omega
                have hxc := (HX.out _ HBw.out).2
                clear hrow hgb lc
                by_cases h2 : wh = 2
                · have hb1 : (wh == 2) = true := by simp [h2]
                  have hb2 : (wh == 1) = false := by simp [h2]
                  by_cases h3 : dy - px < 1000
                  · have hd : decide (dy - px < 1000) = true := by simpa using h3
                    have HFE := Lib.hid (HER.out (by rw [HST.out]; (try dsimp only); rw [HLF.out]; unfold afterM; rw [if_pos ⟨h2, h3⟩]; rfl))
                    clear h2 h3
                    go_wp2_with fail
                    refine bodyPost_ret (v := .tuple #[.slice none 0 0, .slice none 0 0, .int .i64 (i : Int), .int .i64 13]) (by simp [results, Tryd.results37, go_sem]) rfl ⟨.slice none 0 0, .slice none 0 0, ?_⟩
                    rw [HFE.out]
                    exact ⟨rfl, World.ownsRow_nil _ _ _ _, World.ownsRow_nil _ _ _ _, HBw.out.alloc hxc _⟩
                  · have hd : decide (dy - px < 1000) = false := by simpa using h3
                    have HAM : Hid (afterM sx px dy wh = (thenM sx wh).map fun t => (t, px)) := Lib.hid (by unfold afterM; rw [if_neg (by intro q; exact h3 q.2), h2]; rfl)
                    clear h2 h3
                    cases htm : thenM sx wh with
                    | none =>
                      have HTH : Hid (thenI sx wh = -1) := Lib.hid (by unfold thenI; rw [htm]; rfl)
                      have HFE := Lib.hid (HER.out (by rw [HST.out]; (try dsimp only); rw [HLF.out]; (try dsimp only); rw [HAM.out, htm]; rfl))
                      clear htm
                      go_wp2_with fail
                      refine (refThen_any sx wh _ hsx hwh).mono ?_
                      rw [HTH.out]
                      rintro e w' ⟨rfl, rfl⟩
                      go_wp2_with fail
                      refine bodyPost_ret (v := .tuple #[.slice none 0 0, .slice none 0 0, .int .i64 (i : Int), .int .i64 13]) (by simp [results, Tryd.results37, go_sem]) rfl ⟨.slice none 0 0, .slice none 0 0, ?_⟩
                      rw [HFE.out]
                      exact ⟨rfl, World.ownsRow_nil _ _ _ _, World.ownsRow_nil _ _ _ _, (HBw.out.alloc hxc _)⟩
                    | some tt =>
                      have HTH : Hid (thenI sx wh = tt) := Lib.hid (by unfold thenI; rw [htm]; rfl)
                      have htt := then_cases htm
                      have HNX2 := Lib.hid (HNX.out (dy, putL s tg (tt, px)) (by rw [HST.out]; (try dsimp only); rw [HLF.out]; (try dsimp only); rw [HAM.out, htm]; rfl))
                      have htt0 : 0 ≤ tt := by omega
                      clear htm htt
                      go_wp2_with fail
                      refine (refThen_any sx wh _ hsx hwh).mono ?_
                      rw [HTH.out]
                      rintro e w' ⟨rfl, rfl⟩
                      have hap := HAP.out
                      have hge2 := row_ge HLw.out g2 rfl
                      have hks : sl < ((s ++ [(tg, (sx, px))])).length := by rw [HSL1.out]; exact hkl
                      have HRT := Lib.hid ((ownsRow_setCell_other (ownsRow_setCell_other (ownsRow_setCell_other HTw.out (a := ⟨g2, sl * 3, none⟩) hap (.string tg)) (a := ⟨g2, sl * 3 + 1, none⟩) hap (.int .i64 tt)) (a := ⟨g2, sl * 3 + 2, none⟩) hap (.int .i64 (px))).alloc (.cells #[.string tg, .int .i64 tt, .int .i64 (px)] 110))
                      have hr3 := (((HLw.out.stored (sl * 3) (.string tg)).1.stored (sl * 3 + 1) (.int .i64 tt)).1.stored (sl * 3 + 2) (.int .i64 (px))).1.alloc (.cells #[.string tg, .int .i64 tt, .int .i64 (px)] 110)
                      have hls := lifeCells_set hks (tg, (tt, px))
                      dsimp only at hls
                      rw [hls] at hr3
                      have HRL := Lib.hid hr3
                      have HBE := Lib.hid ((((HBw.out.setCell (p := ⟨g2, sl * 3, none⟩) hge2 (.string tg)).setCell (p := ⟨g2, sl * 3 + 1, none⟩) hge2 (.int .i64 tt)).setCell (p := ⟨g2, sl * 3 + 2, none⟩) hge2 (.int .i64 (px))).alloc (by simpa using hxc) (.cells #[.string tg, .int .i64 tt, .int .i64 (px)] 110))
                      have HMS := Lib.hid (map_set_same HPP.out (tt, px))
                      clear hap hge2 hks hr3 hls
                      go_wp2_with fail
                      go_roundw
                      case rel => exact ⟨i + 1, dy, ((s ++ [(tg, (sx, px))])).set sl (tg, (tt, px)), (sl + 1), ta1, tc1, some ⟨g2, 0, none⟩, ac1, by omega, by omega, by go_num, rfl, rfl, Lib.hid (by rw [List.length_set]; exact HSL1.out), Lib.hid (by rw [← HPU.out]; exact HNX2.out), Lib.hid (by rw [HMS.out]; exact HRT.out), HRL, HBE⟩
                      case measure => simp [intOf]; omega
                by_cases h1 : wh = 1
                · have hb1 : (wh == 2) = false := by simpa using h2
                  have hb2 : (wh == 1) = true := by simp [h1]
                  have HAM : Hid (afterM sx px dy wh = (thenM sx wh).map fun t => (t, dy)) := Lib.hid (by unfold afterM; rw [if_neg (by intro q; exact h2 q.1), h1]; rfl)
                  clear h2 h1
                  cases htm : thenM sx wh with
                  | none =>
                    have HTH : Hid (thenI sx wh = -1) := Lib.hid (by unfold thenI; rw [htm]; rfl)
                    have HFE := Lib.hid (HER.out (by rw [HST.out]; (try dsimp only); rw [HLF.out]; (try dsimp only); rw [HAM.out, htm]; rfl))
                    clear htm
                    go_wp2_with fail
                    refine (refThen_any sx wh _ hsx hwh).mono ?_
                    rw [HTH.out]
                    rintro e w' ⟨rfl, rfl⟩
                    go_wp2_with fail
                    refine bodyPost_ret (v := .tuple #[.slice none 0 0, .slice none 0 0, .int .i64 (i : Int), .int .i64 13]) (by simp [results, Tryd.results37, go_sem]) rfl ⟨.slice none 0 0, .slice none 0 0, ?_⟩
                    rw [HFE.out]
                    exact ⟨rfl, World.ownsRow_nil _ _ _ _, World.ownsRow_nil _ _ _ _, (HBw.out.alloc hxc _)⟩
                  | some tt =>
                    have HTH : Hid (thenI sx wh = tt) := Lib.hid (by unfold thenI; rw [htm]; rfl)
                    have htt := then_cases htm
                    have HNX2 := Lib.hid (HNX.out (dy, putL s tg (tt, dy)) (by rw [HST.out]; (try dsimp only); rw [HLF.out]; (try dsimp only); rw [HAM.out, htm]; rfl))
                    have htt0 : 0 ≤ tt := by omega
                    clear htm htt
                    go_wp2_with fail
                    refine (refThen_any sx wh _ hsx hwh).mono ?_
                    rw [HTH.out]
                    rintro e w' ⟨rfl, rfl⟩
                    have hap := HAP.out
                    have hge2 := row_ge HLw.out g2 rfl
                    have hks : sl < ((s ++ [(tg, (sx, px))])).length := by rw [HSL1.out]; exact hkl
                    have HRT := Lib.hid ((ownsRow_setCell_other (ownsRow_setCell_other (ownsRow_setCell_other HTw.out (a := ⟨g2, sl * 3, none⟩) hap (.string tg)) (a := ⟨g2, sl * 3 + 1, none⟩) hap (.int .i64 tt)) (a := ⟨g2, sl * 3 + 2, none⟩) hap (.int .i64 (dy))).alloc (.cells #[.string tg, .int .i64 tt, .int .i64 (dy)] 110))
                    have hr3 := (((HLw.out.stored (sl * 3) (.string tg)).1.stored (sl * 3 + 1) (.int .i64 tt)).1.stored (sl * 3 + 2) (.int .i64 (dy))).1.alloc (.cells #[.string tg, .int .i64 tt, .int .i64 (dy)] 110)
                    have hls := lifeCells_set hks (tg, (tt, dy))
                    dsimp only at hls
                    rw [hls] at hr3
                    have HRL := Lib.hid hr3
                    have HBE := Lib.hid ((((HBw.out.setCell (p := ⟨g2, sl * 3, none⟩) hge2 (.string tg)).setCell (p := ⟨g2, sl * 3 + 1, none⟩) hge2 (.int .i64 tt)).setCell (p := ⟨g2, sl * 3 + 2, none⟩) hge2 (.int .i64 (dy))).alloc (by simpa using hxc) (.cells #[.string tg, .int .i64 tt, .int .i64 (dy)] 110))
                    have HMS := Lib.hid (map_set_same HPP.out (tt, dy))
                    clear hap hge2 hks hr3 hls
                    go_wp2_with fail
                    go_roundw
                    case rel => exact ⟨i + 1, dy, ((s ++ [(tg, (sx, px))])).set sl (tg, (tt, dy)), (sl + 1), ta1, tc1, some ⟨g2, 0, none⟩, ac1, by omega, by omega, by go_num, rfl, rfl, Lib.hid (by rw [List.length_set]; exact HSL1.out), Lib.hid (by rw [← HPU.out]; exact HNX2.out), Lib.hid (by rw [HMS.out]; exact HRT.out), HRL, HBE⟩
                    case measure => simp [intOf]; omega
                · have hb1 : (wh == 2) = false := by simpa using h2
                  have hb2 : (wh == 1) = false := by simpa using h1
                  have HAM : Hid (afterM sx px dy wh = (thenM sx wh).map fun t => (t, px)) := Lib.hid (by unfold afterM; rw [if_neg (by intro q; exact h2 q.1), if_neg h1])
                  clear h2 h1
                  cases htm : thenM sx wh with
                  | none =>
                    have HTH : Hid (thenI sx wh = -1) := Lib.hid (by unfold thenI; rw [htm]; rfl)
                    have HFE := Lib.hid (HER.out (by rw [HST.out]; (try dsimp only); rw [HLF.out]; (try dsimp only); rw [HAM.out, htm]; rfl))
                    clear htm
                    go_wp2_with fail
                    refine (refThen_any sx wh _ hsx hwh).mono ?_
                    rw [HTH.out]
                    rintro e w' ⟨rfl, rfl⟩
                    go_wp2_with fail
                    refine bodyPost_ret (v := .tuple #[.slice none 0 0, .slice none 0 0, .int .i64 (i : Int), .int .i64 13]) (by simp [results, Tryd.results37, go_sem]) rfl ⟨.slice none 0 0, .slice none 0 0, ?_⟩
                    rw [HFE.out]
                    exact ⟨rfl, World.ownsRow_nil _ _ _ _, World.ownsRow_nil _ _ _ _, (HBw.out.alloc hxc _)⟩
                  | some tt =>
                    have HTH : Hid (thenI sx wh = tt) := Lib.hid (by unfold thenI; rw [htm]; rfl)
                    have htt := then_cases htm
                    have HNX2 := Lib.hid (HNX.out (dy, putL s tg (tt, px)) (by rw [HST.out]; (try dsimp only); rw [HLF.out]; (try dsimp only); rw [HAM.out, htm]; rfl))
                    have htt0 : 0 ≤ tt := by omega
                    clear htm htt
                    go_wp2_with fail
                    refine (refThen_any sx wh _ hsx hwh).mono ?_
                    rw [HTH.out]
                    rintro e w' ⟨rfl, rfl⟩
                    have hap := HAP.out
                    have hge2 := row_ge HLw.out g2 rfl
                    have hks : sl < ((s ++ [(tg, (sx, px))])).length := by rw [HSL1.out]; exact hkl
                    have HRT := Lib.hid ((ownsRow_setCell_other (ownsRow_setCell_other (ownsRow_setCell_other HTw.out (a := ⟨g2, sl * 3, none⟩) hap (.string tg)) (a := ⟨g2, sl * 3 + 1, none⟩) hap (.int .i64 tt)) (a := ⟨g2, sl * 3 + 2, none⟩) hap (.int .i64 (px))).alloc (.cells #[.string tg, .int .i64 tt, .int .i64 (px)] 110))
                    have hr3 := (((HLw.out.stored (sl * 3) (.string tg)).1.stored (sl * 3 + 1) (.int .i64 tt)).1.stored (sl * 3 + 2) (.int .i64 (px))).1.alloc (.cells #[.string tg, .int .i64 tt, .int .i64 (px)] 110)
                    have hls := lifeCells_set hks (tg, (tt, px))
                    dsimp only at hls
                    rw [hls] at hr3
                    have HRL := Lib.hid hr3
                    have HBE := Lib.hid ((((HBw.out.setCell (p := ⟨g2, sl * 3, none⟩) hge2 (.string tg)).setCell (p := ⟨g2, sl * 3 + 1, none⟩) hge2 (.int .i64 tt)).setCell (p := ⟨g2, sl * 3 + 2, none⟩) hge2 (.int .i64 (px))).alloc (by simpa using hxc) (.cells #[.string tg, .int .i64 tt, .int .i64 (px)] 110))
                    have HMS := Lib.hid (map_set_same HPP.out (tt, px))
                    clear hap hge2 hks hr3 hls
                    go_wp2_with fail
                    go_roundw
                    case rel => exact ⟨i + 1, dy, ((s ++ [(tg, (sx, px))])).set sl (tg, (tt, px)), (sl + 1), ta1, tc1, some ⟨g2, 0, none⟩, ac1, by omega, by omega, by go_num, rfl, rfl, Lib.hid (by rw [List.length_set]; exact HSL1.out), Lib.hid (by rw [← HPU.out]; exact HNX2.out), Lib.hid (by rw [HMS.out]; exact HRT.out), HRL, HBE⟩
                    case measure => simp [intOf]; omega
              · skip
                have rs1 := (rs0).alloc (.cells #[.string tg, .int .i64 0, .int .i64 0] 110)
                have rl1 := (rl0).alloc (.cells #[.string tg, .int .i64 0, .int .i64 0] 110)
                have bx1 := (bx0).alloc (.cells #[.string tg, .int .i64 0, .int .i64 0] 110)
                have be1 := (be0).alloc (be0).size (.cells #[.string tg, .int .i64 0, .int .i64 0] 110)
                have tt1 := Box.new (((wc).alloc (.cells #[.string tg] 9))) #[.string tg, .int .i64 0, .int .i64 0] 110
                try simp only [World.size_alloc] at tt1
                have to1 := (tt0).alloc (.cells #[.string tg, .int .i64 0, .int .i64 0] 110)
                (refine wpOp_planS rfl (by rfl) (fun K hK => ?_); go_simp)
                refine hK.out _ _ bx1 ?_
                clear hK K
                refine PlanS.call rfl (by rfl) (fun K hK => ?_)
                refine wp_append_own _ (.tmp 67) (.tmp 70) 51 rfl w.heap.size 9 i0 (.string ⟨#[]⟩) 1 16 Tryd.underlying51 hi0 hz0 hz1 hz2 rfl (by decide) (.slice ta sl tc) sl ((s.map (·.1)).map Value.string) rfl ((rs1).drew) ⟨wc.heap.size, 0, none⟩ 1 1 [.string tg] rfl (by rfl) (fun j x hx => by rw [Addr.add_lit, Nat.zero_add, ((to1).drew).cell]; simpa using hx) (by simp [Value.oneCell']) (by unfold maxLen; omega) (by omega) ((be1).drew).size ?_
                intro v' wv hown hgrow _
                obtain ⟨ta1, tc1, rfl⟩ := row_form hown
                have rl2 := ((rl1).drew).kept hgrow (rows_apart ((rl1).drew) ((rs1).drew) (by decide))
                have bx2 : Box wv wr.heap.size #[.int .i64 dy, .string tg, .int .i64 wh] 70 := (hgrow.block _ ((bx1).drew).lt (box_not ((bx1).drew) ((rs1).drew) (by decide))).trans ((bx1).drew)
                have be2 := ((be1).drew).grown hgrow ((be1).drew).size (row_ge ((rs1).drew))
                have to2 : Box wv _ #[.string tg, .int .i64 0, .int .i64 0] 110 := (hgrow.block _ ((tt1).drew).lt (box_not ((tt1).drew) ((rs1).drew) (by decide))).trans ((tt1).drew)
                have rs2 := hown
                refine hK.out _ _ bx2 ?_
                clear hK K
                refine PlanS.call rfl (by rfl) (fun K hK => ?_)
                refine wp_append_own _ (.tmp 72) (.tmp 76) 107 rfl w.heap.size 110 j0 zl 3 32 Tryd.underlying107 hj0 hzl hj1 hj2 hzs (by decide) (.slice aa sl ac) sl (lifeCells s) rfl (rl2) ⟨wc.heap.size + 1, 0, none⟩ 1 1 [.string tg, .int .i64 0, .int .i64 0] rfl (by rfl) (fun j x hx => by rw [Addr.add_lit, Nat.zero_add, (to2).cell]; simpa using hx) (by simp [Value.oneCell']) (by unfold maxLen; omega) (by omega) (be2).size ?_
                intro v' wc hown hgrow _
                obtain ⟨aa1, ac1, rfl⟩ := row_form hown
                have rs3 := (rs2).kept hgrow (rows_apart (rs2) (rl2) (by decide))
                have bx3 : Box wc wr.heap.size #[.int .i64 dy, .string tg, .int .i64 wh] 70 := (hgrow.block _ (bx2).lt (box_not (bx2) (rl2) (by decide))).trans (bx2)
                have be3 := (be2).grown hgrow (be2).size (row_ge (rl2))
                have rl3 := hown
                refine hK.out _ _ bx3 ?_
                clear hK K
                (refine PlanS.free (v := ?_) rfl (by rfl) (fun W hW => ?_) ?_; rotate_left; (go_simp; with_reducible rfl); simp only [_root_.Go.Act.put, List.setIfInBounds_toArray, List.set_cons_zero, List.set_cons_succ])
                (refine PlanS.free (v := ?_) rfl (by rfl) (fun W hW => ?_) ?_; rotate_left; (go_simp; with_reducible rfl); simp only [_root_.Go.Act.put, List.setIfInBounds_toArray, List.set_cons_zero, List.set_cons_succ])
                refine PlanS.end' ?_
                have HTw : Hid (wc.ownsRow w.heap.size 9 1 (.slice ta1 (sl + 1) tc1) (sl + 1) (((s ++ [(tg, (sx, px))]).map (·.1)).map Value.string)) := Lib.hid (by rw [List.map_append, List.map_append]; exact rs3)
                have HLw : Hid (wc.ownsRow w.heap.size 110 3 (.slice aa1 (sl + 1) ac1) (sl + 1) (lifeCells (s ++ [(tg, (sx, px))]))) := Lib.hid (by rw [lifeCells_snoc, HS0.out, HP0.out]; exact rl3)
                have HBw := Lib.hid (be3)
                have ca0 : wc.cell? ⟨wr.heap.size, 0, none⟩ = some (.int .i64 dy) := (bx3).cell 0
                have ca1 : wc.cell? ⟨wr.heap.size, 1, none⟩ = some (.string tg) := (bx3).cell 1
                have ca2 : wc.cell? ⟨wr.heap.size, 2, none⟩ = some (.int .i64 wh) := (bx3).cell 2
                have hsz : wr.heap.size < wc.heap.size := (bx3).lt
                have hrow := HLw.out
                rcases hrow.2 with ⟨_, h0⟩ | ⟨g2, cap2, cur2, h2, _, hgb, _, _, _, _⟩
                · omega
                simp only [Value.slice.injEq] at h2
                obtain ⟨rfl, _, rfl⟩ := h2
                have hg2l : g2 < wc.heap.size := lt_of_block hgb
                have lc : ∀ j, j < 3 → wc.cell? ⟨g2, sl * 3 + j, none⟩ = ([.string tg, .int .i64 sx, .int .i64 px] : List Value)[j]? := fun j hj => by
                  have h := lifeCells_at HPP.out j hj
                  cases e : ([.string tg, .int .i64 sx, .int .i64 px] : List Value)[j]? with
                  | none => match j, hj with
                    | 0, _ => cases e
                    | 1, _ => cases e
                    | 2, _ => cases e
                  | some v =>
                    rw [e] at h
                    have := hrow.cells (g := g2) rfl (sl * 3 + j) v h
                    rwa [Addr.add_lit, Nat.zero_add] at this
                have c0 : wc.cell? ⟨g2, sl * 3, none⟩ = some (.string tg) := lc 0 (by omega)
                have c1 : wc.cell? ⟨g2, sl * 3 + 1, none⟩ = some (.int .i64 sx) := lc 1 (by omega)
                have c2 : wc.cell? ⟨g2, sl * 3 + 2, none⟩ = some (.int .i64 px) := lc 2 (by omega)
                have q0 : wc.frozen? ⟨g2, sl * 3, none⟩ = false := hrow.frozenAt _
                have q1 : wc.frozen? ⟨g2, sl * 3 + 1, none⟩ = false := hrow.frozenAt _
                have q2 : wc.frozen? ⟨g2, sl * 3 + 2, none⟩ = false := hrow.frozenAt _
                have hgne : g2 ≠ wc.heap.size := by omega
                have hane : wr.heap.size ≠ wc.heap.size := by omega
                have HAP : Hid ((Value.slice ta1 (sl + 1) tc1).ownBlock ≠ some g2) := Lib.hid fun e => by
                  rcases rows_apart HTw.out HLw.out (by decide) with q | q
                  · rw [q] at e; cases e
                  · exact q (e.trans rfl)
                have hws : IntKind.i64.wrap (dy - px) = dy - px := by rw [IntKind.wrap_i64]; omega
                have hxc := (HX.out _ HBw.out).2
                clear hrow hgb lc
                by_cases h2 : wh = 2
                · have hb1 : (wh == 2) = true := by simp [h2]
                  have hb2 : (wh == 1) = false := by simp [h2]
                  by_cases h3 : dy - px < 1000
                  · have hd : decide (dy - px < 1000) = true := by simpa using h3
                    have HFE := Lib.hid (HER.out (by rw [HST.out]; (try dsimp only); rw [HLF.out]; unfold afterM; rw [if_pos ⟨h2, h3⟩]; rfl))
                    clear h2 h3
                    go_wp2_with fail
                    refine bodyPost_ret (v := .tuple #[.slice none 0 0, .slice none 0 0, .int .i64 (i : Int), .int .i64 13]) (by simp [results, Tryd.results37, go_sem]) rfl ⟨.slice none 0 0, .slice none 0 0, ?_⟩
                    rw [HFE.out]
                    exact ⟨rfl, World.ownsRow_nil _ _ _ _, World.ownsRow_nil _ _ _ _, HBw.out.alloc hxc _⟩
                  · have hd : decide (dy - px < 1000) = false := by simpa using h3
                    have HAM : Hid (afterM sx px dy wh = (thenM sx wh).map fun t => (t, px)) := Lib.hid (by unfold afterM; rw [if_neg (by intro q; exact h3 q.2), h2]; rfl)
                    clear h2 h3
                    cases htm : thenM sx wh with
                    | none =>
                      have HTH : Hid (thenI sx wh = -1) := Lib.hid (by unfold thenI; rw [htm]; rfl)
                      have HFE := Lib.hid (HER.out (by rw [HST.out]; (try dsimp only); rw [HLF.out]; (try dsimp only); rw [HAM.out, htm]; rfl))
                      clear htm
                      go_wp2_with fail
                      refine (refThen_any sx wh _ hsx hwh).mono ?_
                      rw [HTH.out]
                      rintro e w' ⟨rfl, rfl⟩
                      go_wp2_with fail
                      refine bodyPost_ret (v := .tuple #[.slice none 0 0, .slice none 0 0, .int .i64 (i : Int), .int .i64 13]) (by simp [results, Tryd.results37, go_sem]) rfl ⟨.slice none 0 0, .slice none 0 0, ?_⟩
                      rw [HFE.out]
                      exact ⟨rfl, World.ownsRow_nil _ _ _ _, World.ownsRow_nil _ _ _ _, (HBw.out.alloc hxc _)⟩
                    | some tt =>
                      have HTH : Hid (thenI sx wh = tt) := Lib.hid (by unfold thenI; rw [htm]; rfl)
                      have htt := then_cases htm
                      have HNX2 := Lib.hid (HNX.out (dy, putL s tg (tt, px)) (by rw [HST.out]; (try dsimp only); rw [HLF.out]; (try dsimp only); rw [HAM.out, htm]; rfl))
                      have htt0 : 0 ≤ tt := by omega
                      clear htm htt
                      go_wp2_with fail
                      refine (refThen_any sx wh _ hsx hwh).mono ?_
                      rw [HTH.out]
                      rintro e w' ⟨rfl, rfl⟩
                      have hap := HAP.out
                      have hge2 := row_ge HLw.out g2 rfl
                      have hks : sl < ((s ++ [(tg, (sx, px))])).length := by rw [HSL1.out]; exact hkl
                      have HRT := Lib.hid ((ownsRow_setCell_other (ownsRow_setCell_other (ownsRow_setCell_other HTw.out (a := ⟨g2, sl * 3, none⟩) hap (.string tg)) (a := ⟨g2, sl * 3 + 1, none⟩) hap (.int .i64 tt)) (a := ⟨g2, sl * 3 + 2, none⟩) hap (.int .i64 (px))).alloc (.cells #[.string tg, .int .i64 tt, .int .i64 (px)] 110))
                      have hr3 := (((HLw.out.stored (sl * 3) (.string tg)).1.stored (sl * 3 + 1) (.int .i64 tt)).1.stored (sl * 3 + 2) (.int .i64 (px))).1.alloc (.cells #[.string tg, .int .i64 tt, .int .i64 (px)] 110)
                      have hls := lifeCells_set hks (tg, (tt, px))
                      dsimp only at hls
                      rw [hls] at hr3
                      have HRL := Lib.hid hr3
                      have HBE := Lib.hid ((((HBw.out.setCell (p := ⟨g2, sl * 3, none⟩) hge2 (.string tg)).setCell (p := ⟨g2, sl * 3 + 1, none⟩) hge2 (.int .i64 tt)).setCell (p := ⟨g2, sl * 3 + 2, none⟩) hge2 (.int .i64 (px))).alloc (by simpa using hxc) (.cells #[.string tg, .int .i64 tt, .int .i64 (px)] 110))
                      have HMS := Lib.hid (map_set_same HPP.out (tt, px))
                      clear hap hge2 hks hr3 hls
                      go_wp2_with fail
                      go_roundw
                      case rel => exact ⟨i + 1, dy, ((s ++ [(tg, (sx, px))])).set sl (tg, (tt, px)), (sl + 1), ta1, tc1, some ⟨g2, 0, none⟩, ac1, by omega, by omega, by go_num, rfl, rfl, Lib.hid (by rw [List.length_set]; exact HSL1.out), Lib.hid (by rw [← HPU.out]; exact HNX2.out), Lib.hid (by rw [HMS.out]; exact HRT.out), HRL, HBE⟩
                      case measure => simp [intOf]; omega
                by_cases h1 : wh = 1
                · have hb1 : (wh == 2) = false := by simpa using h2
                  have hb2 : (wh == 1) = true := by simp [h1]
                  have HAM : Hid (afterM sx px dy wh = (thenM sx wh).map fun t => (t, dy)) := Lib.hid (by unfold afterM; rw [if_neg (by intro q; exact h2 q.1), h1]; rfl)
                  clear h2 h1
                  cases htm : thenM sx wh with
                  | none =>
                    have HTH : Hid (thenI sx wh = -1) := Lib.hid (by unfold thenI; rw [htm]; rfl)
                    have HFE := Lib.hid (HER.out (by rw [HST.out]; (try dsimp only); rw [HLF.out]; (try dsimp only); rw [HAM.out, htm]; rfl))
                    clear htm
                    go_wp2_with fail
                    refine (refThen_any sx wh _ hsx hwh).mono ?_
                    rw [HTH.out]
                    rintro e w' ⟨rfl, rfl⟩
                    go_wp2_with fail
                    refine bodyPost_ret (v := .tuple #[.slice none 0 0, .slice none 0 0, .int .i64 (i : Int), .int .i64 13]) (by simp [results, Tryd.results37, go_sem]) rfl ⟨.slice none 0 0, .slice none 0 0, ?_⟩
                    rw [HFE.out]
                    exact ⟨rfl, World.ownsRow_nil _ _ _ _, World.ownsRow_nil _ _ _ _, (HBw.out.alloc hxc _)⟩
                  | some tt =>
                    have HTH : Hid (thenI sx wh = tt) := Lib.hid (by unfold thenI; rw [htm]; rfl)
                    have htt := then_cases htm
                    have HNX2 := Lib.hid (HNX.out (dy, putL s tg (tt, dy)) (by rw [HST.out]; (try dsimp only); rw [HLF.out]; (try dsimp only); rw [HAM.out, htm]; rfl))
                    have htt0 : 0 ≤ tt := by omega
                    clear htm htt
                    go_wp2_with fail
                    refine (refThen_any sx wh _ hsx hwh).mono ?_
                    rw [HTH.out]
                    rintro e w' ⟨rfl, rfl⟩
                    have hap := HAP.out
                    have hge2 := row_ge HLw.out g2 rfl
                    have hks : sl < ((s ++ [(tg, (sx, px))])).length := by rw [HSL1.out]; exact hkl
                    have HRT := Lib.hid ((ownsRow_setCell_other (ownsRow_setCell_other (ownsRow_setCell_other HTw.out (a := ⟨g2, sl * 3, none⟩) hap (.string tg)) (a := ⟨g2, sl * 3 + 1, none⟩) hap (.int .i64 tt)) (a := ⟨g2, sl * 3 + 2, none⟩) hap (.int .i64 (dy))).alloc (.cells #[.string tg, .int .i64 tt, .int .i64 (dy)] 110))
                    have hr3 := (((HLw.out.stored (sl * 3) (.string tg)).1.stored (sl * 3 + 1) (.int .i64 tt)).1.stored (sl * 3 + 2) (.int .i64 (dy))).1.alloc (.cells #[.string tg, .int .i64 tt, .int .i64 (dy)] 110)
                    have hls := lifeCells_set hks (tg, (tt, dy))
                    dsimp only at hls
                    rw [hls] at hr3
                    have HRL := Lib.hid hr3
                    have HBE := Lib.hid ((((HBw.out.setCell (p := ⟨g2, sl * 3, none⟩) hge2 (.string tg)).setCell (p := ⟨g2, sl * 3 + 1, none⟩) hge2 (.int .i64 tt)).setCell (p := ⟨g2, sl * 3 + 2, none⟩) hge2 (.int .i64 (dy))).alloc (by simpa using hxc) (.cells #[.string tg, .int .i64 tt, .int .i64 (dy)] 110))
                    have HMS := Lib.hid (map_set_same HPP.out (tt, dy))
                    clear hap hge2 hks hr3 hls
                    go_wp2_with fail
                    go_roundw
                    case rel => exact ⟨i + 1, dy, ((s ++ [(tg, (sx, px))])).set sl (tg, (tt, dy)), (sl + 1), ta1, tc1, some ⟨g2, 0, none⟩, ac1, by omega, by omega, by go_num, rfl, rfl, Lib.hid (by rw [List.length_set]; exact HSL1.out), Lib.hid (by rw [← HPU.out]; exact HNX2.out), Lib.hid (by rw [HMS.out]; exact HRT.out), HRL, HBE⟩
                    case measure => simp [intOf]; omega
                · have hb1 : (wh == 2) = false := by simpa using h2
                  have hb2 : (wh == 1) = false := by simpa using h1
                  have HAM : Hid (afterM sx px dy wh = (thenM sx wh).map fun t => (t, px)) := Lib.hid (by unfold afterM; rw [if_neg (by intro q; exact h2 q.1), if_neg h1])
                  clear h2 h1
                  cases htm : thenM sx wh with
                  | none =>
                    have HTH : Hid (thenI sx wh = -1) := Lib.hid (by unfold thenI; rw [htm]; rfl)
                    have HFE := Lib.hid (HER.out (by rw [HST.out]; (try dsimp only); rw [HLF.out]; (try dsimp only); rw [HAM.out, htm]; rfl))
                    clear htm
                    go_wp2_with fail
                    refine (refThen_any sx wh _ hsx hwh).mono ?_
                    rw [HTH.out]
                    rintro e w' ⟨rfl, rfl⟩
                    go_wp2_with fail
                    refine bodyPost_ret (v := .tuple #[.slice none 0 0, .slice none 0 0, .int .i64 (i : Int), .int .i64 13]) (by simp [results, Tryd.results37, go_sem]) rfl ⟨.slice none 0 0, .slice none 0 0, ?_⟩
                    rw [HFE.out]
                    exact ⟨rfl, World.ownsRow_nil _ _ _ _, World.ownsRow_nil _ _ _ _, (HBw.out.alloc hxc _)⟩
                  | some tt =>
                    have HTH : Hid (thenI sx wh = tt) := Lib.hid (by unfold thenI; rw [htm]; rfl)
                    have htt := then_cases htm
                    have HNX2 := Lib.hid (HNX.out (dy, putL s tg (tt, px)) (by rw [HST.out]; (try dsimp only); rw [HLF.out]; (try dsimp only); rw [HAM.out, htm]; rfl))
                    have htt0 : 0 ≤ tt := by omega
                    clear htm htt
                    go_wp2_with fail
                    refine (refThen_any sx wh _ hsx hwh).mono ?_
                    rw [HTH.out]
                    rintro e w' ⟨rfl, rfl⟩
                    have hap := HAP.out
                    have hge2 := row_ge HLw.out g2 rfl
                    have hks : sl < ((s ++ [(tg, (sx, px))])).length := by rw [HSL1.out]; exact hkl
                    have HRT := Lib.hid ((ownsRow_setCell_other (ownsRow_setCell_other (ownsRow_setCell_other HTw.out (a := ⟨g2, sl * 3, none⟩) hap (.string tg)) (a := ⟨g2, sl * 3 + 1, none⟩) hap (.int .i64 tt)) (a := ⟨g2, sl * 3 + 2, none⟩) hap (.int .i64 (px))).alloc (.cells #[.string tg, .int .i64 tt, .int .i64 (px)] 110))
                    have hr3 := (((HLw.out.stored (sl * 3) (.string tg)).1.stored (sl * 3 + 1) (.int .i64 tt)).1.stored (sl * 3 + 2) (.int .i64 (px))).1.alloc (.cells #[.string tg, .int .i64 tt, .int .i64 (px)] 110)
                    have hls := lifeCells_set hks (tg, (tt, px))
                    dsimp only at hls
                    rw [hls] at hr3
                    have HRL := Lib.hid hr3
                    have HBE := Lib.hid ((((HBw.out.setCell (p := ⟨g2, sl * 3, none⟩) hge2 (.string tg)).setCell (p := ⟨g2, sl * 3 + 1, none⟩) hge2 (.int .i64 tt)).setCell (p := ⟨g2, sl * 3 + 2, none⟩) hge2 (.int .i64 (px))).alloc (by simpa using hxc) (.cells #[.string tg, .int .i64 tt, .int .i64 (px)] 110))
                    have HMS := Lib.hid (map_set_same HPP.out (tt, px))
                    clear hap hge2 hks hr3 hls
                    go_wp2_with fail
                    go_roundw
                    case rel => exact ⟨i + 1, dy, ((s ++ [(tg, (sx, px))])).set sl (tg, (tt, px)), (sl + 1), ta1, tc1, some ⟨g2, 0, none⟩, ac1, by omega, by omega, by go_num, rfl, rfl, Lib.hid (by rw [List.length_set]; exact HSL1.out), Lib.hid (by rw [← HPU.out]; exact HNX2.out), Lib.hid (by rw [HMS.out]; exact HRT.out), HRL, HBE⟩
                    case measure => simp [intOf]; omega
            · skip
              have rs0 := (HTw.out).alloc (.cells #[.string tg, .int .i64 0, .int .i64 0] 110)
              have rl0 := (HLw.out).alloc (.cells #[.string tg, .int .i64 0, .int .i64 0] 110)
              have bx0 := (bAw).alloc (.cells #[.string tg, .int .i64 0, .int .i64 0] 110)
              have be0 := (HBw.out).alloc (HBw.out).size (.cells #[.string tg, .int .i64 0, .int .i64 0] 110)
              have tt0 := Box.new (wc) #[.string tg, .int .i64 0, .int .i64 0] 110
              try simp only [World.size_drew, World.size_alloc] at tt0
              (refine wpOp_planS rfl (by rfl) (fun K hK => ?_); go_simp)
              refine hK.out _ _ bx0 ?_
              clear hK K
              have rs1 := (rs0).alloc (.cells #[.string tg] 9)
              have rl1 := (rl0).alloc (.cells #[.string tg] 9)
              have bx1 := (bx0).alloc (.cells #[.string tg] 9)
              have be1 := (be0).alloc (be0).size (.cells #[.string tg] 9)
              have tt1 := Box.new (((wc).alloc (.cells #[.string tg, .int .i64 0, .int .i64 0] 110))) #[.string tg] 9
              try simp only [World.size_alloc] at tt1
              have to1 := (tt0).alloc (.cells #[.string tg] 9)
              (refine PlanS.call rfl (by rfl) (fun K hK => ?_); go_simp)
              refine hK.out _ _ bx1 ?_
              clear hK K
              refine PlanS.call rfl (by rfl) (fun K hK => ?_)
              refine wp_append_own _ (.tmp 67) (.tmp 70) 51 rfl w.heap.size 9 i0 (.string ⟨#[]⟩) 1 16 Tryd.underlying51 hi0 hz0 hz1 hz2 rfl (by decide) (.slice ta sl tc) sl ((s.map (·.1)).map Value.string) rfl ((rs1).drew) ⟨wc.heap.size + 1, 0, none⟩ 1 1 [.string tg] rfl (by rfl) (fun j x hx => by rw [Addr.add_lit, Nat.zero_add, ((tt1).drew).cell]; simpa using hx) (by simp [Value.oneCell']) (by unfold maxLen; omega) (by omega) ((be1).drew).size ?_
              intro v' wv hown hgrow _
              obtain ⟨ta1, tc1, rfl⟩ := row_form hown
              have rl2 := ((rl1).drew).kept hgrow (rows_apart ((rl1).drew) ((rs1).drew) (by decide))
              have bx2 : Box wv wr.heap.size #[.int .i64 dy, .string tg, .int .i64 wh] 70 := (hgrow.block _ ((bx1).drew).lt (box_not ((bx1).drew) ((rs1).drew) (by decide))).trans ((bx1).drew)
              have be2 := ((be1).drew).grown hgrow ((be1).drew).size (row_ge ((rs1).drew))
              have to2 : Box wv _ #[.string tg, .int .i64 0, .int .i64 0] 110 := (hgrow.block _ ((to1).drew).lt (box_not ((to1).drew) ((rs1).drew) (by decide))).trans ((to1).drew)
              have rs2 := hown
              refine hK.out _ _ bx2 ?_
              clear hK K
              refine PlanS.call rfl (by rfl) (fun K hK => ?_)
              refine wp_append_own _ (.tmp 72) (.tmp 76) 107 rfl w.heap.size 110 j0 zl 3 32 Tryd.underlying107 hj0 hzl hj1 hj2 hzs (by decide) (.slice aa sl ac) sl (lifeCells s) rfl (rl2) ⟨wc.heap.size, 0, none⟩ 1 1 [.string tg, .int .i64 0, .int .i64 0] rfl (by rfl) (fun j x hx => by rw [Addr.add_lit, Nat.zero_add, (to2).cell]; simpa using hx) (by simp [Value.oneCell']) (by unfold maxLen; omega) (by omega) (be2).size ?_
              intro v' wc hown hgrow _
              obtain ⟨aa1, ac1, rfl⟩ := row_form hown
              have rs3 := (rs2).kept hgrow (rows_apart (rs2) (rl2) (by decide))
              have bx3 : Box wc wr.heap.size #[.int .i64 dy, .string tg, .int .i64 wh] 70 := (hgrow.block _ (bx2).lt (box_not (bx2) (rl2) (by decide))).trans (bx2)
              have be3 := (be2).grown hgrow (be2).size (row_ge (rl2))
              have rl3 := hown
              refine hK.out _ _ bx3 ?_
              clear hK K
              (refine PlanS.free (v := ?_) rfl (by rfl) (fun W hW => ?_) ?_; rotate_left; (go_simp; with_reducible rfl); simp only [_root_.Go.Act.put, List.setIfInBounds_toArray, List.set_cons_zero, List.set_cons_succ])
              (refine PlanS.free (v := ?_) rfl (by rfl) (fun W hW => ?_) ?_; rotate_left; (go_simp; with_reducible rfl); simp only [_root_.Go.Act.put, List.setIfInBounds_toArray, List.set_cons_zero, List.set_cons_succ])
              refine PlanS.end' ?_
              have HTw : Hid (wc.ownsRow w.heap.size 9 1 (.slice ta1 (sl + 1) tc1) (sl + 1) (((s ++ [(tg, (sx, px))]).map (·.1)).map Value.string)) := Lib.hid (by rw [List.map_append, List.map_append]; exact rs3)
              have HLw : Hid (wc.ownsRow w.heap.size 110 3 (.slice aa1 (sl + 1) ac1) (sl + 1) (lifeCells (s ++ [(tg, (sx, px))]))) := Lib.hid (by rw [lifeCells_snoc, HS0.out, HP0.out]; exact rl3)
              have HBw := Lib.hid (be3)
              have ca0 : wc.cell? ⟨wr.heap.size, 0, none⟩ = some (.int .i64 dy) := (bx3).cell 0
              have ca1 : wc.cell? ⟨wr.heap.size, 1, none⟩ = some (.string tg) := (bx3).cell 1
              have ca2 : wc.cell? ⟨wr.heap.size, 2, none⟩ = some (.int .i64 wh) := (bx3).cell 2
              have hsz : wr.heap.size < wc.heap.size := (bx3).lt
              have hrow := HLw.out
              rcases hrow.2 with ⟨_, h0⟩ | ⟨g2, cap2, cur2, h2, _, hgb, _, _, _, _⟩
              · omega
              simp only [Value.slice.injEq] at h2
              obtain ⟨rfl, _, rfl⟩ := h2
              have hg2l : g2 < wc.heap.size := lt_of_block hgb
              have lc : ∀ j, j < 3 → wc.cell? ⟨g2, sl * 3 + j, none⟩ = ([.string tg, .int .i64 sx, .int .i64 px] : List Value)[j]? := fun j hj => by
                have h := lifeCells_at HPP.out j hj
                cases e : ([.string tg, .int .i64 sx, .int .i64 px] : List Value)[j]? with
                | none => match j, hj with
                  | 0, _ => cases e
                  | 1, _ => cases e
                  | 2, _ => cases e
                | some v =>
                  rw [e] at h
                  have := hrow.cells (g := g2) rfl (sl * 3 + j) v h
                  rwa [Addr.add_lit, Nat.zero_add] at this
              have c0 : wc.cell? ⟨g2, sl * 3, none⟩ = some (.string tg) := lc 0 (by omega)
              have c1 : wc.cell? ⟨g2, sl * 3 + 1, none⟩ = some (.int .i64 sx) := lc 1 (by omega)
              have c2 : wc.cell? ⟨g2, sl * 3 + 2, none⟩ = some (.int .i64 px) := lc 2 (by omega)
              have q0 : wc.frozen? ⟨g2, sl * 3, none⟩ = false := hrow.frozenAt _
              have q1 : wc.frozen? ⟨g2, sl * 3 + 1, none⟩ = false := hrow.frozenAt _
              have q2 : wc.frozen? ⟨g2, sl * 3 + 2, none⟩ = false := hrow.frozenAt _
              have hgne : g2 ≠ wc.heap.size := by omega
              have hane : wr.heap.size ≠ wc.heap.size := by omega
              have HAP : Hid ((Value.slice ta1 (sl + 1) tc1).ownBlock ≠ some g2) := Lib.hid fun e => by
                rcases rows_apart HTw.out HLw.out (by decide) with q | q
                · rw [q] at e; cases e
                · exact q (e.trans rfl)
              have hws : IntKind.i64.wrap (dy - px) = dy - px := by rw [IntKind.wrap_i64]; omega
              have hxc := (HX.out _ HBw.out).2
              clear hrow hgb lc
              by_cases h2 : wh = 2
              · have hb1 : (wh == 2) = true := by simp [h2]
                have hb2 : (wh == 1) = false := by simp [h2]
                by_cases h3 : dy - px < 1000
                · have hd : decide (dy - px < 1000) = true := by simpa using h3
                  have HFE := Lib.hid (HER.out (by rw [HST.out]; (try dsimp only); rw [HLF.out]; unfold afterM; rw [if_pos ⟨h2, h3⟩]; rfl))
                  clear h2 h3
                  go_wp2_with fail
                  refine bodyPost_ret (v := .tuple #[.slice none 0 0, .slice none 0 0, .int .i64 (i : Int), .int .i64 13]) (by simp [results, Tryd.results37, go_sem]) rfl ⟨.slice none 0 0, .slice none 0 0, ?_⟩
                  rw [HFE.out]
                  exact ⟨rfl, World.ownsRow_nil _ _ _ _, World.ownsRow_nil _ _ _ _, HBw.out.alloc hxc _⟩
                · have hd : decide (dy - px < 1000) = false := by simpa using h3
                  have HAM : Hid (afterM sx px dy wh = (thenM sx wh).map fun t => (t, px)) := Lib.hid (by unfold afterM; rw [if_neg (by intro q; exact h3 q.2), h2]; rfl)
                  clear h2 h3
                  cases htm : thenM sx wh with
                  | none =>
                    have HTH : Hid (thenI sx wh = -1) := Lib.hid (by unfold thenI; rw [htm]; rfl)
                    have HFE := Lib.hid (HER.out (by rw [HST.out]; (try dsimp only); rw [HLF.out]; (try dsimp only); rw [HAM.out, htm]; rfl))
                    clear htm
                    go_wp2_with fail
                    refine (refThen_any sx wh _ hsx hwh).mono ?_
                    rw [HTH.out]
                    rintro e w' ⟨rfl, rfl⟩
                    go_wp2_with fail
                    refine bodyPost_ret (v := .tuple #[.slice none 0 0, .slice none 0 0, .int .i64 (i : Int), .int .i64 13]) (by simp [results, Tryd.results37, go_sem]) rfl ⟨.slice none 0 0, .slice none 0 0, ?_⟩
                    rw [HFE.out]
                    exact ⟨rfl, World.ownsRow_nil _ _ _ _, World.ownsRow_nil _ _ _ _, (HBw.out.alloc hxc _)⟩
                  | some tt =>
                    have HTH : Hid (thenI sx wh = tt) := Lib.hid (by unfold thenI; rw [htm]; rfl)
                    have htt := then_cases htm
                    have HNX2 := Lib.hid (HNX.out (dy, putL s tg (tt, px)) (by rw [HST.out]; (try dsimp only); rw [HLF.out]; (try dsimp only); rw [HAM.out, htm]; rfl))
                    have htt0 : 0 ≤ tt := by omega
                    clear htm htt
                    go_wp2_with fail
                    refine (refThen_any sx wh _ hsx hwh).mono ?_
                    rw [HTH.out]
                    rintro e w' ⟨rfl, rfl⟩
                    have hap := HAP.out
                    have hge2 := row_ge HLw.out g2 rfl
                    have hks : sl < ((s ++ [(tg, (sx, px))])).length := by rw [HSL1.out]; exact hkl
                    have HRT := Lib.hid ((ownsRow_setCell_other (ownsRow_setCell_other (ownsRow_setCell_other HTw.out (a := ⟨g2, sl * 3, none⟩) hap (.string tg)) (a := ⟨g2, sl * 3 + 1, none⟩) hap (.int .i64 tt)) (a := ⟨g2, sl * 3 + 2, none⟩) hap (.int .i64 (px))).alloc (.cells #[.string tg, .int .i64 tt, .int .i64 (px)] 110))
                    have hr3 := (((HLw.out.stored (sl * 3) (.string tg)).1.stored (sl * 3 + 1) (.int .i64 tt)).1.stored (sl * 3 + 2) (.int .i64 (px))).1.alloc (.cells #[.string tg, .int .i64 tt, .int .i64 (px)] 110)
                    have hls := lifeCells_set hks (tg, (tt, px))
                    dsimp only at hls
                    rw [hls] at hr3
                    have HRL := Lib.hid hr3
                    have HBE := Lib.hid ((((HBw.out.setCell (p := ⟨g2, sl * 3, none⟩) hge2 (.string tg)).setCell (p := ⟨g2, sl * 3 + 1, none⟩) hge2 (.int .i64 tt)).setCell (p := ⟨g2, sl * 3 + 2, none⟩) hge2 (.int .i64 (px))).alloc (by simpa using hxc) (.cells #[.string tg, .int .i64 tt, .int .i64 (px)] 110))
                    have HMS := Lib.hid (map_set_same HPP.out (tt, px))
                    clear hap hge2 hks hr3 hls
                    go_wp2_with fail
                    go_roundw
                    case rel => exact ⟨i + 1, dy, ((s ++ [(tg, (sx, px))])).set sl (tg, (tt, px)), (sl + 1), ta1, tc1, some ⟨g2, 0, none⟩, ac1, by omega, by omega, by go_num, rfl, rfl, Lib.hid (by rw [List.length_set]; exact HSL1.out), Lib.hid (by rw [← HPU.out]; exact HNX2.out), Lib.hid (by rw [HMS.out]; exact HRT.out), HRL, HBE⟩
                    case measure => simp [intOf]; omega
              by_cases h1 : wh = 1
              · have hb1 : (wh == 2) = false := by simpa using h2
                have hb2 : (wh == 1) = true := by simp [h1]
                have HAM : Hid (afterM sx px dy wh = (thenM sx wh).map fun t => (t, dy)) := Lib.hid (by unfold afterM; rw [if_neg (by intro q; exact h2 q.1), h1]; rfl)
                clear h2 h1
                cases htm : thenM sx wh with
                | none =>
                  have HTH : Hid (thenI sx wh = -1) := Lib.hid (by unfold thenI; rw [htm]; rfl)
                  have HFE := Lib.hid (HER.out (by rw [HST.out]; (try dsimp only); rw [HLF.out]; (try dsimp only); rw [HAM.out, htm]; rfl))
                  clear htm
                  go_wp2_with fail
                  refine (refThen_any sx wh _ hsx hwh).mono ?_
                  rw [HTH.out]
                  rintro e w' ⟨rfl, rfl⟩
                  go_wp2_with fail
                  refine bodyPost_ret (v := .tuple #[.slice none 0 0, .slice none 0 0, .int .i64 (i : Int), .int .i64 13]) (by simp [results, Tryd.results37, go_sem]) rfl ⟨.slice none 0 0, .slice none 0 0, ?_⟩
                  rw [HFE.out]
                  exact ⟨rfl, World.ownsRow_nil _ _ _ _, World.ownsRow_nil _ _ _ _, (HBw.out.alloc hxc _)⟩
                | some tt =>
                  have HTH : Hid (thenI sx wh = tt) := Lib.hid (by unfold thenI; rw [htm]; rfl)
                  have htt := then_cases htm
                  have HNX2 := Lib.hid (HNX.out (dy, putL s tg (tt, dy)) (by rw [HST.out]; (try dsimp only); rw [HLF.out]; (try dsimp only); rw [HAM.out, htm]; rfl))
                  have htt0 : 0 ≤ tt := by omega
                  clear htm htt
                  go_wp2_with fail
                  refine (refThen_any sx wh _ hsx hwh).mono ?_
                  rw [HTH.out]
                  rintro e w' ⟨rfl, rfl⟩
                  have hap := HAP.out
                  have hge2 := row_ge HLw.out g2 rfl
                  have hks : sl < ((s ++ [(tg, (sx, px))])).length := by rw [HSL1.out]; exact hkl
                  have HRT := Lib.hid ((ownsRow_setCell_other (ownsRow_setCell_other (ownsRow_setCell_other HTw.out (a := ⟨g2, sl * 3, none⟩) hap (.string tg)) (a := ⟨g2, sl * 3 + 1, none⟩) hap (.int .i64 tt)) (a := ⟨g2, sl * 3 + 2, none⟩) hap (.int .i64 (dy))).alloc (.cells #[.string tg, .int .i64 tt, .int .i64 (dy)] 110))
                  have hr3 := (((HLw.out.stored (sl * 3) (.string tg)).1.stored (sl * 3 + 1) (.int .i64 tt)).1.stored (sl * 3 + 2) (.int .i64 (dy))).1.alloc (.cells #[.string tg, .int .i64 tt, .int .i64 (dy)] 110)
                  have hls := lifeCells_set hks (tg, (tt, dy))
                  dsimp only at hls
                  rw [hls] at hr3
                  have HRL := Lib.hid hr3
                  have HBE := Lib.hid ((((HBw.out.setCell (p := ⟨g2, sl * 3, none⟩) hge2 (.string tg)).setCell (p := ⟨g2, sl * 3 + 1, none⟩) hge2 (.int .i64 tt)).setCell (p := ⟨g2, sl * 3 + 2, none⟩) hge2 (.int .i64 (dy))).alloc (by simpa using hxc) (.cells #[.string tg, .int .i64 tt, .int .i64 (dy)] 110))
                  have HMS := Lib.hid (map_set_same HPP.out (tt, dy))
                  clear hap hge2 hks hr3 hls
                  go_wp2_with fail
                  go_roundw
                  case rel => exact ⟨i + 1, dy, ((s ++ [(tg, (sx, px))])).set sl (tg, (tt, dy)), (sl + 1), ta1, tc1, some ⟨g2, 0, none⟩, ac1, by omega, by omega, by go_num, rfl, rfl, Lib.hid (by rw [List.length_set]; exact HSL1.out), Lib.hid (by rw [← HPU.out]; exact HNX2.out), Lib.hid (by rw [HMS.out]; exact HRT.out), HRL, HBE⟩
                  case measure => simp [intOf]; omega
              · have hb1 : (wh == 2) = false := by simpa using h2
                have hb2 : (wh == 1) = false := by simpa using h1
                have HAM : Hid (afterM sx px dy wh = (thenM sx wh).map fun t => (t, px)) := Lib.hid (by unfold afterM; rw [if_neg (by intro q; exact h2 q.1), if_neg h1])
                clear h2 h1
                cases htm : thenM sx wh with
                | none =>
                  have HTH : Hid (thenI sx wh = -1) := Lib.hid (by unfold thenI; rw [htm]; rfl)
                  have HFE := Lib.hid (HER.out (by rw [HST.out]; (try dsimp only); rw [HLF.out]; (try dsimp only); rw [HAM.out, htm]; rfl))
                  clear htm
                  go_wp2_with fail
                  refine (refThen_any sx wh _ hsx hwh).mono ?_
                  rw [HTH.out]
                  rintro e w' ⟨rfl, rfl⟩
                  go_wp2_with fail
                  refine bodyPost_ret (v := .tuple #[.slice none 0 0, .slice none 0 0, .int .i64 (i : Int), .int .i64 13]) (by simp [results, Tryd.results37, go_sem]) rfl ⟨.slice none 0 0, .slice none 0 0, ?_⟩
                  rw [HFE.out]
                  exact ⟨rfl, World.ownsRow_nil _ _ _ _, World.ownsRow_nil _ _ _ _, (HBw.out.alloc hxc _)⟩
                | some tt =>
                  have HTH : Hid (thenI sx wh = tt) := Lib.hid (by unfold thenI; rw [htm]; rfl)
                  have htt := then_cases htm
                  have HNX2 := Lib.hid (HNX.out (dy, putL s tg (tt, px)) (by rw [HST.out]; (try dsimp only); rw [HLF.out]; (try dsimp only); rw [HAM.out, htm]; rfl))
                  have htt0 : 0 ≤ tt := by omega
                  clear htm htt
                  go_wp2_with fail
                  refine (refThen_any sx wh _ hsx hwh).mono ?_
                  rw [HTH.out]
                  rintro e w' ⟨rfl, rfl⟩
                  have hap := HAP.out
                  have hge2 := row_ge HLw.out g2 rfl
                  have hks : sl < ((s ++ [(tg, (sx, px))])).length := by rw [HSL1.out]; exact hkl
                  have HRT := Lib.hid ((ownsRow_setCell_other (ownsRow_setCell_other (ownsRow_setCell_other HTw.out (a := ⟨g2, sl * 3, none⟩) hap (.string tg)) (a := ⟨g2, sl * 3 + 1, none⟩) hap (.int .i64 tt)) (a := ⟨g2, sl * 3 + 2, none⟩) hap (.int .i64 (px))).alloc (.cells #[.string tg, .int .i64 tt, .int .i64 (px)] 110))
                  have hr3 := (((HLw.out.stored (sl * 3) (.string tg)).1.stored (sl * 3 + 1) (.int .i64 tt)).1.stored (sl * 3 + 2) (.int .i64 (px))).1.alloc (.cells #[.string tg, .int .i64 tt, .int .i64 (px)] 110)
                  have hls := lifeCells_set hks (tg, (tt, px))
                  dsimp only at hls
                  rw [hls] at hr3
                  have HRL := Lib.hid hr3
                  have HBE := Lib.hid ((((HBw.out.setCell (p := ⟨g2, sl * 3, none⟩) hge2 (.string tg)).setCell (p := ⟨g2, sl * 3 + 1, none⟩) hge2 (.int .i64 tt)).setCell (p := ⟨g2, sl * 3 + 2, none⟩) hge2 (.int .i64 (px))).alloc (by simpa using hxc) (.cells #[.string tg, .int .i64 tt, .int .i64 (px)] 110))
                  have HMS := Lib.hid (map_set_same HPP.out (tt, px))
                  clear hap hge2 hks hr3 hls
                  go_wp2_with fail
                  go_roundw
                  case rel => exact ⟨i + 1, dy, ((s ++ [(tg, (sx, px))])).set sl (tg, (tt, px)), (sl + 1), ta1, tc1, some ⟨g2, 0, none⟩, ac1, by omega, by omega, by go_num, rfl, rfl, Lib.hid (by rw [List.length_set]; exact HSL1.out), Lib.hid (by rw [← HPU.out]; exact HNX2.out), Lib.hid (by rw [HMS.out]; exact HRT.out), HRL, HBE⟩
                  case measure => simp [intOf]; omega
          · obtain ⟨k, rfl⟩ : ∃ k : Nat, kk = k := ⟨kk.toNat, by omega⟩
            obtain ⟨g0, hg0, hge⟩ := hpm rfl
            rw [List.getElem?_map] at hg0
            obtain ⟨pp, hpp, rfl⟩ := Option.map_eq_some_iff.1 hg0
            obtain ⟨hlf, hpu⟩ := put_known TD.nodup hpp hge (0, 0)
            have hpu2 := fun l' => (put_known TD.nodup hpp hge l').2
            obtain ⟨g, sx, px⟩ := pp
            dsimp only at hlf hpu2
            have hk1' : ¬ (k : Int) < 0 := by omega
            have hkl : k < sl := by rw [← HSL.out]; exact (List.getElem?_eq_some_iff.1 hpp).1
            have HPP := Lib.hid hpp
            have HLF := Lib.hid hlf
            have HPU := Lib.hid hpu2
            have hsx := life_range TD tg.data.toList
            have hpx := hPL _ (List.mem_of_getElem? hpp)
            rw [hlf] at hsx
            dsimp only at hsx hpx
            have HSL1 : Hid (s.length = sl) := HSL
            have HMP : Hid ((s.map (·.1)) = (s.map (·.1))) := Lib.hid rfl
            clear hpn hpm hk0 hk1 hg0 hpp hlf hpu hpu2 hge
            have hrow := HLw.out
            rcases hrow.2 with ⟨_, h0⟩ | ⟨g2, cap2, cur2, h2, _, hgb, _, _, _, _⟩
            · omega
            simp only [Value.slice.injEq] at h2
            obtain ⟨rfl, _, rfl⟩ := h2
            have hg2l : g2 < wc.heap.size := lt_of_block hgb
            have lc : ∀ j, j < 3 → wc.cell? ⟨g2, k * 3 + j, none⟩ = ([.string g, .int .i64 sx, .int .i64 px] : List Value)[j]? := fun j hj => by
              have h := lifeCells_at HPP.out j hj
              cases e : ([.string g, .int .i64 sx, .int .i64 px] : List Value)[j]? with
              | none => match j, hj with
                | 0, _ => cases e
                | 1, _ => cases e
                | 2, _ => cases e
              | some v =>
                rw [e] at h
                have := hrow.cells (g := g2) rfl (k * 3 + j) v h
                rwa [Addr.add_lit, Nat.zero_add] at this
            have c0 : wc.cell? ⟨g2, k * 3, none⟩ = some (.string g) := lc 0 (by omega)
            have c1 : wc.cell? ⟨g2, k * 3 + 1, none⟩ = some (.int .i64 sx) := lc 1 (by omega)
            have c2 : wc.cell? ⟨g2, k * 3 + 2, none⟩ = some (.int .i64 px) := lc 2 (by omega)
            have q0 : wc.frozen? ⟨g2, k * 3, none⟩ = false := hrow.frozenAt _
            have q1 : wc.frozen? ⟨g2, k * 3 + 1, none⟩ = false := hrow.frozenAt _
            have q2 : wc.frozen? ⟨g2, k * 3 + 2, none⟩ = false := hrow.frozenAt _
            have hgne : g2 ≠ wc.heap.size := by omega
            have hane : wr.heap.size ≠ wc.heap.size := by omega
            have HAP : Hid ((Value.slice ta sl tc).ownBlock ≠ some g2) := Lib.hid fun e => by
              rcases rows_apart HTw.out HLw.out (by decide) with q | q
              · rw [q] at e; cases e
              · exact q (e.trans rfl)
            have hws : IntKind.i64.wrap (dy - px) = dy - px := by rw [IntKind.wrap_i64]; omega
            have hxc := (HX.out _ HBw.out).2
            clear hrow hgb lc
            by_cases h2 : wh = 2
            · have hb1 : (wh == 2) = true := by simp [h2]
              have hb2 : (wh == 1) = false := by simp [h2]
              by_cases h3 : dy - px < 1000
              · have hd : decide (dy - px < 1000) = true := by simpa using h3
                have HFE := Lib.hid (HER.out (by rw [HST.out]; (try dsimp only); rw [HLF.out]; unfold afterM; rw [if_pos ⟨h2, h3⟩]; rfl))
                clear h2 h3
                go_wp2_with fail
                refine bodyPost_ret (v := .tuple #[.slice none 0 0, .slice none 0 0, .int .i64 (i : Int), .int .i64 13]) (by simp [results, Tryd.results37, go_sem]) rfl ⟨.slice none 0 0, .slice none 0 0, ?_⟩
                rw [HFE.out]
                exact ⟨rfl, World.ownsRow_nil _ _ _ _, World.ownsRow_nil _ _ _ _, HBw.out.alloc hxc _⟩
              · have hd : decide (dy - px < 1000) = false := by simpa using h3
                have HAM : Hid (afterM sx px dy wh = (thenM sx wh).map fun t => (t, px)) := Lib.hid (by unfold afterM; rw [if_neg (by intro q; exact h3 q.2), h2]; rfl)
                clear h2 h3
                cases htm : thenM sx wh with
                | none =>
                  have HTH : Hid (thenI sx wh = -1) := Lib.hid (by unfold thenI; rw [htm]; rfl)
                  have HFE := Lib.hid (HER.out (by rw [HST.out]; (try dsimp only); rw [HLF.out]; (try dsimp only); rw [HAM.out, htm]; rfl))
                  clear htm
                  go_wp2_with fail
                  refine (refThen_any sx wh _ hsx hwh).mono ?_
                  rw [HTH.out]
                  rintro e w' ⟨rfl, rfl⟩
                  go_wp2_with fail
                  refine bodyPost_ret (v := .tuple #[.slice none 0 0, .slice none 0 0, .int .i64 (i : Int), .int .i64 13]) (by simp [results, Tryd.results37, go_sem]) rfl ⟨.slice none 0 0, .slice none 0 0, ?_⟩
                  rw [HFE.out]
                  exact ⟨rfl, World.ownsRow_nil _ _ _ _, World.ownsRow_nil _ _ _ _, (HBw.out.alloc hxc _)⟩
                | some tt =>
                  have HTH : Hid (thenI sx wh = tt) := Lib.hid (by unfold thenI; rw [htm]; rfl)
                  have htt := then_cases htm
                  have HNX2 := Lib.hid (HNX.out (dy, putL s tg (tt, px)) (by rw [HST.out]; (try dsimp only); rw [HLF.out]; (try dsimp only); rw [HAM.out, htm]; rfl))
                  have htt0 : 0 ≤ tt := by omega
                  clear htm htt
                  go_wp2_with fail
                  refine (refThen_any sx wh _ hsx hwh).mono ?_
                  rw [HTH.out]
                  rintro e w' ⟨rfl, rfl⟩
                  have hap := HAP.out
                  have hge2 := row_ge HLw.out g2 rfl
                  have hks : k < (s).length := by rw [HSL1.out]; exact hkl
                  have HRT := Lib.hid ((ownsRow_setCell_other (ownsRow_setCell_other (ownsRow_setCell_other HTw.out (a := ⟨g2, k * 3, none⟩) hap (.string g)) (a := ⟨g2, k * 3 + 1, none⟩) hap (.int .i64 tt)) (a := ⟨g2, k * 3 + 2, none⟩) hap (.int .i64 (px))).alloc (.cells #[.string g, .int .i64 tt, .int .i64 (px)] 110))
                  have hr3 := (((HLw.out.stored (k * 3) (.string g)).1.stored (k * 3 + 1) (.int .i64 tt)).1.stored (k * 3 + 2) (.int .i64 (px))).1.alloc (.cells #[.string g, .int .i64 tt, .int .i64 (px)] 110)
                  have hls := lifeCells_set hks (g, (tt, px))
                  dsimp only at hls
                  rw [hls] at hr3
                  have HRL := Lib.hid hr3
                  have HBE := Lib.hid ((((HBw.out.setCell (p := ⟨g2, k * 3, none⟩) hge2 (.string g)).setCell (p := ⟨g2, k * 3 + 1, none⟩) hge2 (.int .i64 tt)).setCell (p := ⟨g2, k * 3 + 2, none⟩) hge2 (.int .i64 (px))).alloc (by simpa using hxc) (.cells #[.string g, .int .i64 tt, .int .i64 (px)] 110))
                  have HMS := Lib.hid (map_set_same HPP.out (tt, px))
                  clear hap hge2 hks hr3 hls
                  go_wp2_with fail
                  go_roundw
                  case rel => exact ⟨i + 1, dy, (s).set k (g, (tt, px)), sl, ta, tc, some ⟨g2, 0, none⟩, ac, by omega, by omega, by go_num, rfl, rfl, Lib.hid (by rw [List.length_set]; exact HSL1.out), Lib.hid (by rw [← HPU.out]; exact HNX2.out), Lib.hid (by rw [HMS.out]; exact HRT.out), HRL, HBE⟩
                  case measure => simp [intOf]; omega
            by_cases h1 : wh = 1
            · have hb1 : (wh == 2) = false := by simpa using h2
              have hb2 : (wh == 1) = true := by simp [h1]
              have HAM : Hid (afterM sx px dy wh = (thenM sx wh).map fun t => (t, dy)) := Lib.hid (by unfold afterM; rw [if_neg (by intro q; exact h2 q.1), h1]; rfl)
              clear h2 h1
              cases htm : thenM sx wh with
              | none =>
                have HTH : Hid (thenI sx wh = -1) := Lib.hid (by unfold thenI; rw [htm]; rfl)
                have HFE := Lib.hid (HER.out (by rw [HST.out]; (try dsimp only); rw [HLF.out]; (try dsimp only); rw [HAM.out, htm]; rfl))
                clear htm
                go_wp2_with fail
                refine (refThen_any sx wh _ hsx hwh).mono ?_
                rw [HTH.out]
                rintro e w' ⟨rfl, rfl⟩
                go_wp2_with fail
                refine bodyPost_ret (v := .tuple #[.slice none 0 0, .slice none 0 0, .int .i64 (i : Int), .int .i64 13]) (by simp [results, Tryd.results37, go_sem]) rfl ⟨.slice none 0 0, .slice none 0 0, ?_⟩
                rw [HFE.out]
                exact ⟨rfl, World.ownsRow_nil _ _ _ _, World.ownsRow_nil _ _ _ _, (HBw.out.alloc hxc _)⟩
              | some tt =>
                have HTH : Hid (thenI sx wh = tt) := Lib.hid (by unfold thenI; rw [htm]; rfl)
                have htt := then_cases htm
                have HNX2 := Lib.hid (HNX.out (dy, putL s tg (tt, dy)) (by rw [HST.out]; (try dsimp only); rw [HLF.out]; (try dsimp only); rw [HAM.out, htm]; rfl))
                have htt0 : 0 ≤ tt := by omega
                clear htm htt
                go_wp2_with fail
                refine (refThen_any sx wh _ hsx hwh).mono ?_
                rw [HTH.out]
                rintro e w' ⟨rfl, rfl⟩
                have hap := HAP.out
                have hge2 := row_ge HLw.out g2 rfl
                have hks : k < (s).length := by rw [HSL1.out]; exact hkl
                have HRT := Lib.hid ((ownsRow_setCell_other (ownsRow_setCell_other (ownsRow_setCell_other HTw.out (a := ⟨g2, k * 3, none⟩) hap (.string g)) (a := ⟨g2, k * 3 + 1, none⟩) hap (.int .i64 tt)) (a := ⟨g2, k * 3 + 2, none⟩) hap (.int .i64 (dy))).alloc (.cells #[.string g, .int .i64 tt, .int .i64 (dy)] 110))
                have hr3 := (((HLw.out.stored (k * 3) (.string g)).1.stored (k * 3 + 1) (.int .i64 tt)).1.stored (k * 3 + 2) (.int .i64 (dy))).1.alloc (.cells #[.string g, .int .i64 tt, .int .i64 (dy)] 110)
                have hls := lifeCells_set hks (g, (tt, dy))
                dsimp only at hls
                rw [hls] at hr3
                have HRL := Lib.hid hr3
                have HBE := Lib.hid ((((HBw.out.setCell (p := ⟨g2, k * 3, none⟩) hge2 (.string g)).setCell (p := ⟨g2, k * 3 + 1, none⟩) hge2 (.int .i64 tt)).setCell (p := ⟨g2, k * 3 + 2, none⟩) hge2 (.int .i64 (dy))).alloc (by simpa using hxc) (.cells #[.string g, .int .i64 tt, .int .i64 (dy)] 110))
                have HMS := Lib.hid (map_set_same HPP.out (tt, dy))
                clear hap hge2 hks hr3 hls
                go_wp2_with fail
                go_roundw
                case rel => exact ⟨i + 1, dy, (s).set k (g, (tt, dy)), sl, ta, tc, some ⟨g2, 0, none⟩, ac, by omega, by omega, by go_num, rfl, rfl, Lib.hid (by rw [List.length_set]; exact HSL1.out), Lib.hid (by rw [← HPU.out]; exact HNX2.out), Lib.hid (by rw [HMS.out]; exact HRT.out), HRL, HBE⟩
                case measure => simp [intOf]; omega
            · have hb1 : (wh == 2) = false := by simpa using h2
              have hb2 : (wh == 1) = false := by simpa using h1
              have HAM : Hid (afterM sx px dy wh = (thenM sx wh).map fun t => (t, px)) := Lib.hid (by unfold afterM; rw [if_neg (by intro q; exact h2 q.1), if_neg h1])
              clear h2 h1
              cases htm : thenM sx wh with
              | none =>
                have HTH : Hid (thenI sx wh = -1) := Lib.hid (by unfold thenI; rw [htm]; rfl)
                have HFE := Lib.hid (HER.out (by rw [HST.out]; (try dsimp only); rw [HLF.out]; (try dsimp only); rw [HAM.out, htm]; rfl))
                clear htm
                go_wp2_with fail
                refine (refThen_any sx wh _ hsx hwh).mono ?_
                rw [HTH.out]
                rintro e w' ⟨rfl, rfl⟩
                go_wp2_with fail
                refine bodyPost_ret (v := .tuple #[.slice none 0 0, .slice none 0 0, .int .i64 (i : Int), .int .i64 13]) (by simp [results, Tryd.results37, go_sem]) rfl ⟨.slice none 0 0, .slice none 0 0, ?_⟩
                rw [HFE.out]
                exact ⟨rfl, World.ownsRow_nil _ _ _ _, World.ownsRow_nil _ _ _ _, (HBw.out.alloc hxc _)⟩
              | some tt =>
                have HTH : Hid (thenI sx wh = tt) := Lib.hid (by unfold thenI; rw [htm]; rfl)
                have htt := then_cases htm
                have HNX2 := Lib.hid (HNX.out (dy, putL s tg (tt, px)) (by rw [HST.out]; (try dsimp only); rw [HLF.out]; (try dsimp only); rw [HAM.out, htm]; rfl))
                have htt0 : 0 ≤ tt := by omega
                clear htm htt
                go_wp2_with fail
                refine (refThen_any sx wh _ hsx hwh).mono ?_
                rw [HTH.out]
                rintro e w' ⟨rfl, rfl⟩
                have hap := HAP.out
                have hge2 := row_ge HLw.out g2 rfl
                have hks : k < (s).length := by rw [HSL1.out]; exact hkl
                have HRT := Lib.hid ((ownsRow_setCell_other (ownsRow_setCell_other (ownsRow_setCell_other HTw.out (a := ⟨g2, k * 3, none⟩) hap (.string g)) (a := ⟨g2, k * 3 + 1, none⟩) hap (.int .i64 tt)) (a := ⟨g2, k * 3 + 2, none⟩) hap (.int .i64 (px))).alloc (.cells #[.string g, .int .i64 tt, .int .i64 (px)] 110))
                have hr3 := (((HLw.out.stored (k * 3) (.string g)).1.stored (k * 3 + 1) (.int .i64 tt)).1.stored (k * 3 + 2) (.int .i64 (px))).1.alloc (.cells #[.string g, .int .i64 tt, .int .i64 (px)] 110)
                have hls := lifeCells_set hks (g, (tt, px))
                dsimp only at hls
                rw [hls] at hr3
                have HRL := Lib.hid hr3
                have HBE := Lib.hid ((((HBw.out.setCell (p := ⟨g2, k * 3, none⟩) hge2 (.string g)).setCell (p := ⟨g2, k * 3 + 1, none⟩) hge2 (.int .i64 tt)).setCell (p := ⟨g2, k * 3 + 2, none⟩) hge2 (.int .i64 (px))).alloc (by simpa using hxc) (.cells #[.string g, .int .i64 tt, .int .i64 (px)] 110))
                have HMS := Lib.hid (map_set_same HPP.out (tt, px))
                clear hap hge2 hks hr3 hls
                go_wp2_with fail
                go_roundw
                case rel => exact ⟨i + 1, dy, (s).set k (g, (tt, px)), sl, ta, tc, some ⟨g2, 0, none⟩, ac, by omega, by omega, by go_num, rfl, rfl, Lib.hid (by rw [List.length_set]; exact HSL1.out), Lib.hid (by rw [← HPU.out]; exact HNX2.out), Lib.hid (by rw [HMS.out]; exact HRT.out), HRL, HBE⟩
                case measure => simp [intOf]; omega
    · obtain ⟨y, hy, hyd⟩ := hpd hi0
      have p0 : (wr.alloc (.cells #[.int .i64 dy, .string tg, .int .i64 wh] 70)).cell? ⟨b, off + (i - 1) * 3, none⟩ = some (.int .i64 today) := by
        have := (hAc (i - 1) y hy).1
        rw [hyd] at this
        exact (Below.refl _ _ |>.alloc (Nat.le_refl _) _).cell (p := ⟨b, off + (i - 1) * 3, none⟩) (by exact hbl) |>.trans this
      have hib : decide ((0 : Int) < (i : Int)) = true := by rw [decide_eq_true_iff]; omega
      have hib2 : decide (0 < i) = true := by rw [decide_eq_true_iff]; omega
      have hiw : IntKind.i64.wrap ((i : Int) - 1) = (i : Int) - 1 := by rw [IntKind.wrap_i64]; omega
      have hin1 : ((i : Int) - 1).toNat = i - 1 := by omega
      have hin0 : 0 ≤ (i : Int) - 1 := by omega
      have hin2 : 1 ≤ (i : Int) := by omega
      have hin3 : (i : Int) - 1 < (n : Int) := by omega
      clear hi0 hpd hp0 hy hyd
      by_cases hod : today ≤ dy
      · have hdb : decide (dy < today) = false := by rw [decide_eq_false_iff_not]; omega
        rcases hW : wordB tg.data.toList with _ | _
        · have HFE := Lib.hid (HER.out (step_no2 hW))
          have HW := Lib.hid hW
          clear hW
          go_wp2_with fail
          refine region_seq (fun W => ∀ p, W.cell? p = (wr.alloc (.cells #[.int .i64 dy, .string tg, .int .i64 wh] 70)).cell? p) [(0, true), (1, true), (2, false), (3, true), (4, true), (5, true), (6, true), (7, true), (8, true), (9, true), (10, true), (11, true), (12, true), (13, true), (14, true), (15, true), (16, true), (17, true), (18, true), (19, true), (20, true), (21, true), (22, false), (23, true), (24, true), (25, true), (26, true), (27, true), (28, false), (29, true), (30, true)]
            (by kernel_rfl) (by kernel_rfl) (by kernel_rfl) (by simp) (fun _ _ _ _ h => h) (fun _ => rfl) ?_
          (refine SeqW.take (v := ?_) rfl (by rfl) (fun W hW => ?_) ?_; rotate_left; (go_simp; with_reducible rfl); simp only [_root_.Go.Act.put, List.setIfInBounds_toArray, List.set_cons_zero, List.set_cons_succ])
          (refine SeqW.take (v := ?_) rfl (by rfl) (fun W hW => ?_) ?_; rotate_left; (have l0 := (hW _).trans a0; have l1 := (hW _).trans a1; have l2 := (hW _).trans a2; have l3 := (hW _).trans p0; go_simp; with_reducible rfl); simp only [_root_.Go.Act.put, List.setIfInBounds_toArray, List.set_cons_zero, List.set_cons_succ])
          (refine SeqW.call rfl (by rfl) (fun K hK => ?_); go_simp)
          refine (refIn_any _ _ _ _).mono ?_
          rw [HI1.out]
          rintro e w' ⟨rfl, rfl⟩
          go_simp
          refine hK.out _ _ (fun _ => rfl) ?_
          clear hK K
          (refine SeqW.take (v := ?_) rfl (by rfl) (fun W hW => ?_) ?_; rotate_left; (go_simp; with_reducible rfl); simp only [_root_.Go.Act.put, List.setIfInBounds_toArray, List.set_cons_zero, List.set_cons_succ])
          (refine SeqW.take (v := ?_) rfl (by rfl) (fun W hW => ?_) ?_; rotate_left; (go_simp; with_reducible rfl); simp only [_root_.Go.Act.put, List.setIfInBounds_toArray, List.set_cons_zero, List.set_cons_succ])
          (refine SeqW.take (v := ?_) rfl (by rfl) (fun W hW => ?_) ?_; rotate_left; (go_simp; with_reducible rfl); simp only [_root_.Go.Act.put, List.setIfInBounds_toArray, List.set_cons_zero, List.set_cons_succ])
          (refine SeqW.take (v := ?_) rfl (by rfl) (fun W hW => ?_) ?_; rotate_left; (go_simp; with_reducible rfl); simp only [_root_.Go.Act.put, List.setIfInBounds_toArray, List.set_cons_zero, List.set_cons_succ])
          (refine SeqW.take (v := ?_) rfl (by rfl) (fun W hW => ?_) ?_; rotate_left; (go_simp; with_reducible rfl); simp only [_root_.Go.Act.put, List.setIfInBounds_toArray, List.set_cons_zero, List.set_cons_succ])
          (refine SeqW.take (v := ?_) rfl (by rfl) (fun W hW => ?_) ?_; rotate_left; (go_simp; with_reducible rfl); simp only [_root_.Go.Act.put, List.setIfInBounds_toArray, List.set_cons_zero, List.set_cons_succ])
          (refine SeqW.take (v := ?_) rfl (by rfl) (fun W hW => ?_) ?_; rotate_left; (go_simp; with_reducible rfl); simp only [_root_.Go.Act.put, List.setIfInBounds_toArray, List.set_cons_zero, List.set_cons_succ])
          (refine SeqW.take (v := ?_) rfl (by rfl) (fun W hW => ?_) ?_; rotate_left; (go_simp; with_reducible rfl); simp only [_root_.Go.Act.put, List.setIfInBounds_toArray, List.set_cons_zero, List.set_cons_succ])
          (refine SeqW.take (v := ?_) rfl (by rfl) (fun W hW => ?_) ?_; rotate_left; (go_simp; with_reducible rfl); simp only [_root_.Go.Act.put, List.setIfInBounds_toArray, List.set_cons_zero, List.set_cons_succ])
          (refine SeqW.take (v := ?_) rfl (by rfl) (fun W hW => ?_) ?_; rotate_left; (go_simp; with_reducible rfl); simp only [_root_.Go.Act.put, List.setIfInBounds_toArray, List.set_cons_zero, List.set_cons_succ])
          (refine SeqW.take (v := ?_) rfl (by rfl) (fun W hW => ?_) ?_; rotate_left; (have l0 := (hW _).trans a0; have l1 := (hW _).trans a1; have l2 := (hW _).trans a2; have l3 := (hW _).trans p0; go_simp; with_reducible rfl); simp only [_root_.Go.Act.put, List.setIfInBounds_toArray, List.set_cons_zero, List.set_cons_succ])
          (refine SeqW.take (v := ?_) rfl (by rfl) (fun W hW => ?_) ?_; rotate_left; (go_simp; with_reducible rfl); simp only [_root_.Go.Act.put, List.setIfInBounds_toArray, List.set_cons_zero, List.set_cons_succ])
          (refine SeqW.take (v := ?_) rfl (by rfl) (fun W hW => ?_) ?_; rotate_left; (have l0 := (hW _).trans a0; have l1 := (hW _).trans a1; have l2 := (hW _).trans a2; have l3 := (hW _).trans p0; go_simp; with_reducible rfl); simp only [_root_.Go.Act.put, List.setIfInBounds_toArray, List.set_cons_zero, List.set_cons_succ])
          (refine SeqW.take (v := ?_) rfl (by rfl) (fun W hW => ?_) ?_; rotate_left; (go_simp; with_reducible rfl); simp only [_root_.Go.Act.put, List.setIfInBounds_toArray, List.set_cons_zero, List.set_cons_succ])
          (refine SeqW.take (v := ?_) rfl (by rfl) (fun W hW => ?_) ?_; rotate_left; (go_simp; with_reducible rfl); simp only [_root_.Go.Act.put, List.setIfInBounds_toArray, List.set_cons_zero, List.set_cons_succ])
          (refine SeqW.take (v := ?_) rfl (by rfl) (fun W hW => ?_) ?_; rotate_left; (go_simp; with_reducible rfl); simp only [_root_.Go.Act.put, List.setIfInBounds_toArray, List.set_cons_zero, List.set_cons_succ])
          (refine SeqW.take (v := ?_) rfl (by rfl) (fun W hW => ?_) ?_; rotate_left; (go_simp; with_reducible rfl); simp only [_root_.Go.Act.put, List.setIfInBounds_toArray, List.set_cons_zero, List.set_cons_succ])
          (refine SeqW.take (v := ?_) rfl (by rfl) (fun W hW => ?_) ?_; rotate_left; (go_simp; with_reducible rfl); simp only [_root_.Go.Act.put, List.setIfInBounds_toArray, List.set_cons_zero, List.set_cons_succ])
          (refine SeqW.take (v := ?_) rfl (by rfl) (fun W hW => ?_) ?_; rotate_left; (have l0 := (hW _).trans a0; have l1 := (hW _).trans a1; have l2 := (hW _).trans a2; have l3 := (hW _).trans p0; go_simp; with_reducible rfl); simp only [_root_.Go.Act.put, List.setIfInBounds_toArray, List.set_cons_zero, List.set_cons_succ])
          (refine SeqW.call rfl (by rfl) (fun K hK => ?_); go_simp)
          refine (refWord_any _ _ hxt).mono ?_
          rw [HW.out]
          rintro e w' ⟨rfl, rfl⟩
          go_simp
          refine hK.out _ _ (fun _ => rfl) ?_
          clear hK K
          (refine SeqW.take (v := ?_) rfl (by rfl) (fun W hW => ?_) ?_; rotate_left; (go_simp; with_reducible rfl); simp only [_root_.Go.Act.put, List.setIfInBounds_toArray, List.set_cons_zero, List.set_cons_succ])
          (refine SeqW.take (v := ?_) rfl (by rfl) (fun W hW => ?_) ?_; rotate_left; (go_simp; with_reducible rfl); simp only [_root_.Go.Act.put, List.setIfInBounds_toArray, List.set_cons_zero, List.set_cons_succ])
          (refine SeqW.take (v := ?_) rfl (by rfl) (fun W hW => ?_) ?_; rotate_left; (go_simp; with_reducible rfl); simp only [_root_.Go.Act.put, List.setIfInBounds_toArray, List.set_cons_zero, List.set_cons_succ])
          (refine SeqW.skip rfl (by rfl) ?_; simp only [_root_.Go.Act.put, List.setIfInBounds_toArray, List.set_cons_zero, List.set_cons_succ])
          (refine SeqW.skip rfl (by rfl) ?_; simp only [_root_.Go.Act.put, List.setIfInBounds_toArray, List.set_cons_zero, List.set_cons_succ])
          (refine SeqW.callskip rfl (by rfl) (fun _ => rfl) ?_; simp only [_root_.Go.Act.put, List.setIfInBounds_toArray, List.set_cons_zero, List.set_cons_succ])
          (refine SeqW.skip rfl (by rfl) ?_; simp only [_root_.Go.Act.put, List.setIfInBounds_toArray, List.set_cons_zero, List.set_cons_succ])
          (refine SeqW.take (v := ?_) rfl (by rfl) (fun W hW => ?_) ?_; rotate_left; (go_simp; with_reducible rfl); simp only [_root_.Go.Act.put, List.setIfInBounds_toArray, List.set_cons_zero, List.set_cons_succ])
          refine SeqW.done ?_
          go_wp2_with fail
          refine bodyPost_ret (v := .tuple #[.slice none 0 0, .slice none 0 0, .int .i64 (i : Int), .int .i64 13]) (by simp [results, Tryd.results37, go_sem]) rfl ⟨.slice none 0 0, .slice none 0 0, ?_⟩
          rw [HFE.out]
          exact ⟨rfl, World.ownsRow_nil _ _ _ _, World.ownsRow_nil _ _ _ _, hB1.drew⟩
        · rcases hI2 : frB wh 1 5 with _ | _
          · have HFE := Lib.hid (HER.out (step_no3 hI2))
            have HW := Lib.hid hW
            have HI2 := Lib.hid hI2
            clear hW hI2
            go_wp2_with fail
            refine region_seq (fun W => ∀ p, W.cell? p = (wr.alloc (.cells #[.int .i64 dy, .string tg, .int .i64 wh] 70)).cell? p) [(0, true), (1, true), (2, false), (3, true), (4, true), (5, true), (6, true), (7, true), (8, true), (9, true), (10, true), (11, true), (12, true), (13, true), (14, true), (15, true), (16, true), (17, true), (18, true), (19, true), (20, true), (21, true), (22, false), (23, true), (24, true), (25, true), (26, true), (27, true), (28, false), (29, true), (30, true)]
              (by kernel_rfl) (by kernel_rfl) (by kernel_rfl) (by simp) (fun _ _ _ _ h => h) (fun _ => rfl) ?_
            (refine SeqW.take (v := ?_) rfl (by rfl) (fun W hW => ?_) ?_; rotate_left; (go_simp; with_reducible rfl); simp only [_root_.Go.Act.put, List.setIfInBounds_toArray, List.set_cons_zero, List.set_cons_succ])
            (refine SeqW.take (v := ?_) rfl (by rfl) (fun W hW => ?_) ?_; rotate_left; (have l0 := (hW _).trans a0; have l1 := (hW _).trans a1; have l2 := (hW _).trans a2; have l3 := (hW _).trans p0; go_simp; with_reducible rfl); simp only [_root_.Go.Act.put, List.setIfInBounds_toArray, List.set_cons_zero, List.set_cons_succ])
            (refine SeqW.call rfl (by rfl) (fun K hK => ?_); go_simp)
            refine (refIn_any _ _ _ _).mono ?_
            rw [HI1.out]
            rintro e w' ⟨rfl, rfl⟩
            go_simp
            refine hK.out _ _ (fun _ => rfl) ?_
            clear hK K
            (refine SeqW.take (v := ?_) rfl (by rfl) (fun W hW => ?_) ?_; rotate_left; (go_simp; with_reducible rfl); simp only [_root_.Go.Act.put, List.setIfInBounds_toArray, List.set_cons_zero, List.set_cons_succ])
            (refine SeqW.take (v := ?_) rfl (by rfl) (fun W hW => ?_) ?_; rotate_left; (go_simp; with_reducible rfl); simp only [_root_.Go.Act.put, List.setIfInBounds_toArray, List.set_cons_zero, List.set_cons_succ])
            (refine SeqW.take (v := ?_) rfl (by rfl) (fun W hW => ?_) ?_; rotate_left; (go_simp; with_reducible rfl); simp only [_root_.Go.Act.put, List.setIfInBounds_toArray, List.set_cons_zero, List.set_cons_succ])
            (refine SeqW.take (v := ?_) rfl (by rfl) (fun W hW => ?_) ?_; rotate_left; (go_simp; with_reducible rfl); simp only [_root_.Go.Act.put, List.setIfInBounds_toArray, List.set_cons_zero, List.set_cons_succ])
            (refine SeqW.take (v := ?_) rfl (by rfl) (fun W hW => ?_) ?_; rotate_left; (go_simp; with_reducible rfl); simp only [_root_.Go.Act.put, List.setIfInBounds_toArray, List.set_cons_zero, List.set_cons_succ])
            (refine SeqW.take (v := ?_) rfl (by rfl) (fun W hW => ?_) ?_; rotate_left; (go_simp; with_reducible rfl); simp only [_root_.Go.Act.put, List.setIfInBounds_toArray, List.set_cons_zero, List.set_cons_succ])
            (refine SeqW.take (v := ?_) rfl (by rfl) (fun W hW => ?_) ?_; rotate_left; (go_simp; with_reducible rfl); simp only [_root_.Go.Act.put, List.setIfInBounds_toArray, List.set_cons_zero, List.set_cons_succ])
            (refine SeqW.take (v := ?_) rfl (by rfl) (fun W hW => ?_) ?_; rotate_left; (go_simp; with_reducible rfl); simp only [_root_.Go.Act.put, List.setIfInBounds_toArray, List.set_cons_zero, List.set_cons_succ])
            (refine SeqW.take (v := ?_) rfl (by rfl) (fun W hW => ?_) ?_; rotate_left; (go_simp; with_reducible rfl); simp only [_root_.Go.Act.put, List.setIfInBounds_toArray, List.set_cons_zero, List.set_cons_succ])
            (refine SeqW.take (v := ?_) rfl (by rfl) (fun W hW => ?_) ?_; rotate_left; (go_simp; with_reducible rfl); simp only [_root_.Go.Act.put, List.setIfInBounds_toArray, List.set_cons_zero, List.set_cons_succ])
            (refine SeqW.take (v := ?_) rfl (by rfl) (fun W hW => ?_) ?_; rotate_left; (have l0 := (hW _).trans a0; have l1 := (hW _).trans a1; have l2 := (hW _).trans a2; have l3 := (hW _).trans p0; go_simp; with_reducible rfl); simp only [_root_.Go.Act.put, List.setIfInBounds_toArray, List.set_cons_zero, List.set_cons_succ])
            (refine SeqW.take (v := ?_) rfl (by rfl) (fun W hW => ?_) ?_; rotate_left; (go_simp; with_reducible rfl); simp only [_root_.Go.Act.put, List.setIfInBounds_toArray, List.set_cons_zero, List.set_cons_succ])
            (refine SeqW.take (v := ?_) rfl (by rfl) (fun W hW => ?_) ?_; rotate_left; (have l0 := (hW _).trans a0; have l1 := (hW _).trans a1; have l2 := (hW _).trans a2; have l3 := (hW _).trans p0; go_simp; with_reducible rfl); simp only [_root_.Go.Act.put, List.setIfInBounds_toArray, List.set_cons_zero, List.set_cons_succ])
            (refine SeqW.take (v := ?_) rfl (by rfl) (fun W hW => ?_) ?_; rotate_left; (go_simp; with_reducible rfl); simp only [_root_.Go.Act.put, List.setIfInBounds_toArray, List.set_cons_zero, List.set_cons_succ])
            (refine SeqW.take (v := ?_) rfl (by rfl) (fun W hW => ?_) ?_; rotate_left; (go_simp; with_reducible rfl); simp only [_root_.Go.Act.put, List.setIfInBounds_toArray, List.set_cons_zero, List.set_cons_succ])
            (refine SeqW.take (v := ?_) rfl (by rfl) (fun W hW => ?_) ?_; rotate_left; (go_simp; with_reducible rfl); simp only [_root_.Go.Act.put, List.setIfInBounds_toArray, List.set_cons_zero, List.set_cons_succ])
            (refine SeqW.take (v := ?_) rfl (by rfl) (fun W hW => ?_) ?_; rotate_left; (go_simp; with_reducible rfl); simp only [_root_.Go.Act.put, List.setIfInBounds_toArray, List.set_cons_zero, List.set_cons_succ])
            (refine SeqW.take (v := ?_) rfl (by rfl) (fun W hW => ?_) ?_; rotate_left; (go_simp; with_reducible rfl); simp only [_root_.Go.Act.put, List.setIfInBounds_toArray, List.set_cons_zero, List.set_cons_succ])
            (refine SeqW.take (v := ?_) rfl (by rfl) (fun W hW => ?_) ?_; rotate_left; (have l0 := (hW _).trans a0; have l1 := (hW _).trans a1; have l2 := (hW _).trans a2; have l3 := (hW _).trans p0; go_simp; with_reducible rfl); simp only [_root_.Go.Act.put, List.setIfInBounds_toArray, List.set_cons_zero, List.set_cons_succ])
            (refine SeqW.call rfl (by rfl) (fun K hK => ?_); go_simp)
            refine (refWord_any _ _ hxt).mono ?_
            rw [HW.out]
            rintro e w' ⟨rfl, rfl⟩
            go_simp
            refine hK.out _ _ (fun _ => rfl) ?_
            clear hK K
            (refine SeqW.take (v := ?_) rfl (by rfl) (fun W hW => ?_) ?_; rotate_left; (go_simp; with_reducible rfl); simp only [_root_.Go.Act.put, List.setIfInBounds_toArray, List.set_cons_zero, List.set_cons_succ])
            (refine SeqW.take (v := ?_) rfl (by rfl) (fun W hW => ?_) ?_; rotate_left; (go_simp; with_reducible rfl); simp only [_root_.Go.Act.put, List.setIfInBounds_toArray, List.set_cons_zero, List.set_cons_succ])
            (refine SeqW.take (v := ?_) rfl (by rfl) (fun W hW => ?_) ?_; rotate_left; (go_simp; with_reducible rfl); simp only [_root_.Go.Act.put, List.setIfInBounds_toArray, List.set_cons_zero, List.set_cons_succ])
            (refine SeqW.take (v := ?_) rfl (by rfl) (fun W hW => ?_) ?_; rotate_left; (go_simp; with_reducible rfl); simp only [_root_.Go.Act.put, List.setIfInBounds_toArray, List.set_cons_zero, List.set_cons_succ])
            (refine SeqW.take (v := ?_) rfl (by rfl) (fun W hW => ?_) ?_; rotate_left; (have l0 := (hW _).trans a0; have l1 := (hW _).trans a1; have l2 := (hW _).trans a2; have l3 := (hW _).trans p0; go_simp; with_reducible rfl); simp only [_root_.Go.Act.put, List.setIfInBounds_toArray, List.set_cons_zero, List.set_cons_succ])
            (refine SeqW.call rfl (by rfl) (fun K hK => ?_); go_simp)
            refine (refIn_any _ _ _ _).mono ?_
            rw [HI2.out]
            rintro e w' ⟨rfl, rfl⟩
            go_simp
            refine hK.out _ _ (fun _ => rfl) ?_
            clear hK K
            (refine SeqW.take (v := ?_) rfl (by rfl) (fun W hW => ?_) ?_; rotate_left; (go_simp; with_reducible rfl); simp only [_root_.Go.Act.put, List.setIfInBounds_toArray, List.set_cons_zero, List.set_cons_succ])
            (refine SeqW.take (v := ?_) rfl (by rfl) (fun W hW => ?_) ?_; rotate_left; (go_simp; with_reducible rfl); simp only [_root_.Go.Act.put, List.setIfInBounds_toArray, List.set_cons_zero, List.set_cons_succ])
            refine SeqW.done ?_
            go_wp2_with fail
            refine bodyPost_ret (v := .tuple #[.slice none 0 0, .slice none 0 0, .int .i64 (i : Int), .int .i64 13]) (by simp [results, Tryd.results37, go_sem]) rfl ⟨.slice none 0 0, .slice none 0 0, ?_⟩
            rw [HFE.out]
            exact ⟨rfl, World.ownsRow_nil _ _ _ _, World.ownsRow_nil _ _ _ _, hB1.drew⟩
          · have hwh := frB_iff.1 hI2
            have HST := Lib.hid (step_yes (a := ⟨dy, tg, wh⟩) (st := (today, s)) ⟨by dsimp only; omega, hdy.2⟩ hW)
            have HW := Lib.hid hW
            have HI2 := Lib.hid hI2
            clear hW hI2
            go_wp2_with fail
            refine region_seq (fun W => ∀ p, W.cell? p = (wr.alloc (.cells #[.int .i64 dy, .string tg, .int .i64 wh] 70)).cell? p) [(0, true), (1, true), (2, false), (3, true), (4, true), (5, true), (6, true), (7, true), (8, true), (9, true), (10, true), (11, true), (12, true), (13, true), (14, true), (15, true), (16, true), (17, true), (18, true), (19, true), (20, true), (21, true), (22, false), (23, true), (24, true), (25, true), (26, true), (27, true), (28, false), (29, true), (30, true)]
              (by kernel_rfl) (by kernel_rfl) (by kernel_rfl) (by simp) (fun _ _ _ _ h => h) (fun _ => rfl) ?_
            (refine SeqW.take (v := ?_) rfl (by rfl) (fun W hW => ?_) ?_; rotate_left; (go_simp; with_reducible rfl); simp only [_root_.Go.Act.put, List.setIfInBounds_toArray, List.set_cons_zero, List.set_cons_succ])
            (refine SeqW.take (v := ?_) rfl (by rfl) (fun W hW => ?_) ?_; rotate_left; (have l0 := (hW _).trans a0; have l1 := (hW _).trans a1; have l2 := (hW _).trans a2; have l3 := (hW _).trans p0; go_simp; with_reducible rfl); simp only [_root_.Go.Act.put, List.setIfInBounds_toArray, List.set_cons_zero, List.set_cons_succ])
            (refine SeqW.call rfl (by rfl) (fun K hK => ?_); go_simp)
            refine (refIn_any _ _ _ _).mono ?_
            rw [HI1.out]
            rintro e w' ⟨rfl, rfl⟩
            go_simp
            refine hK.out _ _ (fun _ => rfl) ?_
            clear hK K
            (refine SeqW.take (v := ?_) rfl (by rfl) (fun W hW => ?_) ?_; rotate_left; (go_simp; with_reducible rfl); simp only [_root_.Go.Act.put, List.setIfInBounds_toArray, List.set_cons_zero, List.set_cons_succ])
            (refine SeqW.take (v := ?_) rfl (by rfl) (fun W hW => ?_) ?_; rotate_left; (go_simp; with_reducible rfl); simp only [_root_.Go.Act.put, List.setIfInBounds_toArray, List.set_cons_zero, List.set_cons_succ])
            (refine SeqW.take (v := ?_) rfl (by rfl) (fun W hW => ?_) ?_; rotate_left; (go_simp; with_reducible rfl); simp only [_root_.Go.Act.put, List.setIfInBounds_toArray, List.set_cons_zero, List.set_cons_succ])
            (refine SeqW.take (v := ?_) rfl (by rfl) (fun W hW => ?_) ?_; rotate_left; (go_simp; with_reducible rfl); simp only [_root_.Go.Act.put, List.setIfInBounds_toArray, List.set_cons_zero, List.set_cons_succ])
            (refine SeqW.take (v := ?_) rfl (by rfl) (fun W hW => ?_) ?_; rotate_left; (go_simp; with_reducible rfl); simp only [_root_.Go.Act.put, List.setIfInBounds_toArray, List.set_cons_zero, List.set_cons_succ])
            (refine SeqW.take (v := ?_) rfl (by rfl) (fun W hW => ?_) ?_; rotate_left; (go_simp; with_reducible rfl); simp only [_root_.Go.Act.put, List.setIfInBounds_toArray, List.set_cons_zero, List.set_cons_succ])
            (refine SeqW.take (v := ?_) rfl (by rfl) (fun W hW => ?_) ?_; rotate_left; (go_simp; with_reducible rfl); simp only [_root_.Go.Act.put, List.setIfInBounds_toArray, List.set_cons_zero, List.set_cons_succ])
            (refine SeqW.take (v := ?_) rfl (by rfl) (fun W hW => ?_) ?_; rotate_left; (go_simp; with_reducible rfl); simp only [_root_.Go.Act.put, List.setIfInBounds_toArray, List.set_cons_zero, List.set_cons_succ])
            (refine SeqW.take (v := ?_) rfl (by rfl) (fun W hW => ?_) ?_; rotate_left; (go_simp; with_reducible rfl); simp only [_root_.Go.Act.put, List.setIfInBounds_toArray, List.set_cons_zero, List.set_cons_succ])
            (refine SeqW.take (v := ?_) rfl (by rfl) (fun W hW => ?_) ?_; rotate_left; (go_simp; with_reducible rfl); simp only [_root_.Go.Act.put, List.setIfInBounds_toArray, List.set_cons_zero, List.set_cons_succ])
            (refine SeqW.take (v := ?_) rfl (by rfl) (fun W hW => ?_) ?_; rotate_left; (have l0 := (hW _).trans a0; have l1 := (hW _).trans a1; have l2 := (hW _).trans a2; have l3 := (hW _).trans p0; go_simp; with_reducible rfl); simp only [_root_.Go.Act.put, List.setIfInBounds_toArray, List.set_cons_zero, List.set_cons_succ])
            (refine SeqW.take (v := ?_) rfl (by rfl) (fun W hW => ?_) ?_; rotate_left; (go_simp; with_reducible rfl); simp only [_root_.Go.Act.put, List.setIfInBounds_toArray, List.set_cons_zero, List.set_cons_succ])
            (refine SeqW.take (v := ?_) rfl (by rfl) (fun W hW => ?_) ?_; rotate_left; (have l0 := (hW _).trans a0; have l1 := (hW _).trans a1; have l2 := (hW _).trans a2; have l3 := (hW _).trans p0; go_simp; with_reducible rfl); simp only [_root_.Go.Act.put, List.setIfInBounds_toArray, List.set_cons_zero, List.set_cons_succ])
            (refine SeqW.take (v := ?_) rfl (by rfl) (fun W hW => ?_) ?_; rotate_left; (go_simp; with_reducible rfl); simp only [_root_.Go.Act.put, List.setIfInBounds_toArray, List.set_cons_zero, List.set_cons_succ])
            (refine SeqW.take (v := ?_) rfl (by rfl) (fun W hW => ?_) ?_; rotate_left; (go_simp; with_reducible rfl); simp only [_root_.Go.Act.put, List.setIfInBounds_toArray, List.set_cons_zero, List.set_cons_succ])
            (refine SeqW.take (v := ?_) rfl (by rfl) (fun W hW => ?_) ?_; rotate_left; (go_simp; with_reducible rfl); simp only [_root_.Go.Act.put, List.setIfInBounds_toArray, List.set_cons_zero, List.set_cons_succ])
            (refine SeqW.take (v := ?_) rfl (by rfl) (fun W hW => ?_) ?_; rotate_left; (go_simp; with_reducible rfl); simp only [_root_.Go.Act.put, List.setIfInBounds_toArray, List.set_cons_zero, List.set_cons_succ])
            (refine SeqW.take (v := ?_) rfl (by rfl) (fun W hW => ?_) ?_; rotate_left; (go_simp; with_reducible rfl); simp only [_root_.Go.Act.put, List.setIfInBounds_toArray, List.set_cons_zero, List.set_cons_succ])
            (refine SeqW.take (v := ?_) rfl (by rfl) (fun W hW => ?_) ?_; rotate_left; (have l0 := (hW _).trans a0; have l1 := (hW _).trans a1; have l2 := (hW _).trans a2; have l3 := (hW _).trans p0; go_simp; with_reducible rfl); simp only [_root_.Go.Act.put, List.setIfInBounds_toArray, List.set_cons_zero, List.set_cons_succ])
            (refine SeqW.call rfl (by rfl) (fun K hK => ?_); go_simp)
            refine (refWord_any _ _ hxt).mono ?_
            rw [HW.out]
            rintro e w' ⟨rfl, rfl⟩
            go_simp
            refine hK.out _ _ (fun _ => rfl) ?_
            clear hK K
            (refine SeqW.take (v := ?_) rfl (by rfl) (fun W hW => ?_) ?_; rotate_left; (go_simp; with_reducible rfl); simp only [_root_.Go.Act.put, List.setIfInBounds_toArray, List.set_cons_zero, List.set_cons_succ])
            (refine SeqW.take (v := ?_) rfl (by rfl) (fun W hW => ?_) ?_; rotate_left; (go_simp; with_reducible rfl); simp only [_root_.Go.Act.put, List.setIfInBounds_toArray, List.set_cons_zero, List.set_cons_succ])
            (refine SeqW.take (v := ?_) rfl (by rfl) (fun W hW => ?_) ?_; rotate_left; (go_simp; with_reducible rfl); simp only [_root_.Go.Act.put, List.setIfInBounds_toArray, List.set_cons_zero, List.set_cons_succ])
            (refine SeqW.take (v := ?_) rfl (by rfl) (fun W hW => ?_) ?_; rotate_left; (go_simp; with_reducible rfl); simp only [_root_.Go.Act.put, List.setIfInBounds_toArray, List.set_cons_zero, List.set_cons_succ])
            (refine SeqW.take (v := ?_) rfl (by rfl) (fun W hW => ?_) ?_; rotate_left; (have l0 := (hW _).trans a0; have l1 := (hW _).trans a1; have l2 := (hW _).trans a2; have l3 := (hW _).trans p0; go_simp; with_reducible rfl); simp only [_root_.Go.Act.put, List.setIfInBounds_toArray, List.set_cons_zero, List.set_cons_succ])
            (refine SeqW.call rfl (by rfl) (fun K hK => ?_); go_simp)
            refine (refIn_any _ _ _ _).mono ?_
            rw [HI2.out]
            rintro e w' ⟨rfl, rfl⟩
            go_simp
            refine hK.out _ _ (fun _ => rfl) ?_
            clear hK K
            (refine SeqW.take (v := ?_) rfl (by rfl) (fun W hW => ?_) ?_; rotate_left; (go_simp; with_reducible rfl); simp only [_root_.Go.Act.put, List.setIfInBounds_toArray, List.set_cons_zero, List.set_cons_succ])
            (refine SeqW.take (v := ?_) rfl (by rfl) (fun W hW => ?_) ?_; rotate_left; (go_simp; with_reducible rfl); simp only [_root_.Go.Act.put, List.setIfInBounds_toArray, List.set_cons_zero, List.set_cons_succ])
            refine SeqW.done ?_
            go_wp2_with fail
            have HTw := Lib.hid ((HT.out.alloc (.cells #[.int .i64 dy, .string tg, .int .i64 wh] 70)).drew)
            have HLw := Lib.hid ((HL.out.alloc (.cells #[.int .i64 dy, .string tg, .int .i64 wh] 70)).drew)
            have HBw := Lib.hid hB1.drew
            have ca0 : (wr.alloc (.cells #[.int .i64 dy, .string tg, .int .i64 wh] 70)).drew.cell? ⟨wr.heap.size, 0, none⟩ = some (.int .i64 dy) := a0
            have ca1 : (wr.alloc (.cells #[.int .i64 dy, .string tg, .int .i64 wh] 70)).drew.cell? ⟨wr.heap.size, 1, none⟩ = some (.string tg) := a1
            have ca2 : (wr.alloc (.cells #[.int .i64 dy, .string tg, .int .i64 wh] 70)).drew.cell? ⟨wr.heap.size, 2, none⟩ = some (.int .i64 wh) := a2
            have hsz : wr.heap.size < (wr.alloc (.cells #[.int .i64 dy, .string tg, .int .i64 wh] 70)).drew.heap.size := by simp
            have bAw : Box (wr.alloc (.cells #[.int .i64 dy, .string tg, .int .i64 wh] 70)).drew wr.heap.size #[.int .i64 dy, .string tg, .int .i64 wh] 70 := bA
            obtain ⟨wc, hwc⟩ : ∃ wc, (wr.alloc (.cells #[.int .i64 dy, .string tg, .int .i64 wh] 70)).drew = wc := ⟨_, rfl⟩
            rw [hwc] at HTw HLw HBw ca0 ca1 ca2 hsz bAw ⊢
            have hps := posOf_range (s.map (·.1)) tg (s.map (·.1)).length
            have hpn := @posOf_none (s.map (·.1)) tg (s.map (·.1)).length
            have hpm := @posOf_some (s.map (·.1)) tg (s.map (·.1)).length
            obtain ⟨kk, hkk⟩ : ∃ z, posOf (s.map (·.1)) tg (s.map (·.1)).length = z := ⟨_, rfl⟩
            rw [hkk] at hps hpn hpm
            have HKK := Lib.hid hkk
            clear hkk a0 a1 a2 hB1 HI1 HW HI2 hwc f0 f1 f2
            refine (refAtText_any ta sl tc (s.map (·.1)) tg _ (by rw [List.length_map]; exact HSL.out.symm) (by omega) (texts_row HTw.out)).mono ?_
            rw [HKK.out]
            rintro e w' ⟨rfl, rfl⟩
            rw [List.length_map] at hps
            rcases hps with rfl | ⟨hk0, hk1⟩
            · have hun : ∀ p ∈ s, p.1.data.toList ≠ tg.data.toList := fun p hp => by
                obtain ⟨j, hj⟩ := List.mem_iff_getElem?.1 hp
                exact hpn rfl j p.1 (by rw [List.length_map]; exact (List.getElem?_eq_some_iff.1 hj).1) (by rw [List.getElem?_map, hj]; rfl)
              obtain ⟨hlf, _⟩ := put_unknown hun (0, 0)
              have hpu2 := fun l' => (put_unknown hun l').2
              obtain ⟨sx, hsx0⟩ : ∃ z : Int, z = 0 := ⟨0, rfl⟩
              obtain ⟨px, hpx0⟩ : ∃ z : Int, z = 0 := ⟨0, rfl⟩
              have HLF : Hid (lifeL s tg.data.toList = (sx, px)) := Lib.hid (by rw [hsx0, hpx0]; exact hlf)
              have HPU : Hid (∀ l', putL s tg l' = (s ++ [(tg, (sx, px))]).set sl (tg, l')) := Lib.hid fun l' => by rw [← HSL.out, hsx0, hpx0]; exact hpu2 l'
              have HSL1 : Hid ((s ++ [(tg, (sx, px))]).length = sl + 1) := Lib.hid (by rw [List.length_append, HSL.out]; rfl)
              have HPP : Hid ((s ++ [(tg, (sx, px))])[sl]? = some (tg, (sx, px))) := Lib.hid (by rw [← HSL.out]; simp)
              have hsx : 0 ≤ sx ∧ sx ≤ 4 := by omega
              have hpx : 0 ≤ px ∧ px ≤ 36500 := by omega
              have HS0 := Lib.hid hsx0
              have HP0 := Lib.hid hpx0
              have hkl : sl < sl + 1 := by omega
              clear hpn hpm hun hlf hpu2 hsx0 hpx0 ca0 ca1 ca2
              go_wp2_with fail
              refine region_planS (fun W => Box W wr.heap.size #[.int .i64 dy, .string tg, .int .i64 wh] 70) (.take 0 (.take 1 (.take 2 (.take 5 (.take 6 (.take 7 (.take 8 (.two 3 9 (.two 4 9 (.one 9 (.one 10 (.take 11 (.take 12 .done)))) (.one 4 (.one 10 (.take 11 (.take 12 .done))))) (.one 3 (.one 4 (.one 10 (.take 11 (.take 12 .done))))))))))))) (by kernel_rfl) (by kernel_rfl) (by kernel_rfl) (by simp [Plan.depth]) (fun _ _ _ _ h => h) bAw.drew ?_
              (refine PlanS.free (v := ?_) rfl (by rfl) (fun W hW => ?_) ?_; rotate_left; (go_simp; with_reducible rfl); simp only [_root_.Go.Act.put, List.setIfInBounds_toArray, List.set_cons_zero, List.set_cons_succ])
              (refine PlanS.free (v := ?_) rfl (by rfl) (fun W hW => ?_) ?_; rotate_left; (go_simp; with_reducible rfl); simp only [_root_.Go.Act.put, List.setIfInBounds_toArray, List.set_cons_zero, List.set_cons_succ])
              (refine PlanS.free (v := ?_) rfl (by rfl) (fun W hW => ?_) ?_; rotate_left; (have l1 : W.cell? ⟨wr.heap.size, 1, none⟩ = some (.string tg) := hW.cell 1; go_simp; with_reducible rfl); simp only [_root_.Go.Act.put, List.setIfInBounds_toArray, List.set_cons_zero, List.set_cons_succ])
              (refine PlanS.free (v := ?_) rfl (by rfl) (fun W hW => ?_) ?_; rotate_left; (go_simp; with_reducible rfl); simp only [_root_.Go.Act.put, List.setIfInBounds_toArray, List.set_cons_zero, List.set_cons_succ])
              (refine PlanS.free (v := ?_) rfl (by rfl) (fun W hW => ?_) ?_; rotate_left; (go_simp; with_reducible rfl); simp only [_root_.Go.Act.put, List.setIfInBounds_toArray, List.set_cons_zero, List.set_cons_succ])
              (refine PlanS.free (v := ?_) rfl (by rfl) (fun W hW => ?_) ?_; rotate_left; (have l1 : W.cell? ⟨wr.heap.size, 1, none⟩ = some (.string tg) := hW.cell 1; go_simp; with_reducible rfl); simp only [_root_.Go.Act.put, List.setIfInBounds_toArray, List.set_cons_zero, List.set_cons_succ])
              (refine PlanS.free (v := ?_) rfl (by rfl) (fun W hW => ?_) ?_; rotate_left; (go_simp; with_reducible rfl); simp only [_root_.Go.Act.put, List.setIfInBounds_toArray, List.set_cons_zero, List.set_cons_succ])
              refine ⟨?_, ?_⟩
              · skip
                have rs0 := (HTw.out).alloc (.cells #[.string tg] 9)
                have rl0 := (HLw.out).alloc (.cells #[.string tg] 9)
                have bx0 := (bAw).alloc (.cells #[.string tg] 9)
                have be0 := (HBw.out).alloc (HBw.out).size (.cells #[.string tg] 9)
                have tt0 := Box.new (wc) #[.string tg] 9
                try simp only [World.size_drew, World.size_alloc] at tt0
                (refine wpOp_planS rfl (by rfl) (fun K hK => ?_); go_simp)
                refine hK.out _ _ bx0 ?_
                clear hK K
                refine ⟨?_, ?_⟩
                · skip
                  refine wpOp_planS rfl (by rfl) (fun K hK => ?_)
                  refine wp_append_own _ (.tmp 67) (.tmp 70) 51 rfl w.heap.size 9 i0 (.string ⟨#[]⟩) 1 16 Tryd.underlying51 hi0 hz0 hz1 hz2 rfl (by decide) (.slice ta sl tc) sl ((s.map (·.1)).map Value.string) rfl ((rs0).drew) ⟨wc.heap.size, 0, none⟩ 1 1 [.string tg] rfl (by rfl) (fun j x hx => by rw [Addr.add_lit, Nat.zero_add, ((tt0).drew).cell]; simpa using hx) (by simp [Value.oneCell']) (by unfold maxLen; omega) (by omega) ((be0).drew).size ?_
                  intro v' wv hown hgrow _
                  obtain ⟨ta1, tc1, rfl⟩ := row_form hown
                  have rl1 := ((rl0).drew).kept hgrow (rows_apart ((rl0).drew) ((rs0).drew) (by decide))
                  have bx1 : Box wv wr.heap.size #[.int .i64 dy, .string tg, .int .i64 wh] 70 := (hgrow.block _ ((bx0).drew).lt (box_not ((bx0).drew) ((rs0).drew) (by decide))).trans ((bx0).drew)
                  have be1 := ((be0).drew).grown hgrow ((be0).drew).size (row_ge ((rs0).drew))
                  have rs1 := hown
                  refine hK.out _ _ bx1 ?_
                  clear hK K
                  have rs2 := (rs1).alloc (.cells #[.string tg, .int .i64 0, .int .i64 0] 110)
                  have rl2 := (rl1).alloc (.cells #[.string tg, .int .i64 0, .int .i64 0] 110)
                  have bx2 := (bx1).alloc (.cells #[.string tg, .int .i64 0, .int .i64 0] 110)
                  have be2 := (be1).alloc (be1).size (.cells #[.string tg, .int .i64 0, .int .i64 0] 110)
                  have tt2 := Box.new (wv) #[.string tg, .int .i64 0, .int .i64 0] 110
                  try simp only [World.size_drew, World.size_alloc] at tt2
                  have to2 := (tt0).alloc (.cells #[.string tg, .int .i64 0, .int .i64 0] 110)
                  (refine PlanS.call rfl (by rfl) (fun K hK => ?_); go_simp)
                  refine hK.out _ _ bx2 ?_
                  clear hK K
                  refine PlanS.call rfl (by rfl) (fun K hK => ?_)
                  refine wp_append_own _ (.tmp 72) (.tmp 76) 107 rfl w.heap.size 110 j0 zl 3 32 Tryd.underlying107 hj0 hzl hj1 hj2 hzs (by decide) (.slice aa sl ac) sl (lifeCells s) rfl (rl2) ⟨wv.heap.size, 0, none⟩ 1 1 [.string tg, .int .i64 0, .int .i64 0] rfl (by rfl) (fun j x hx => by rw [Addr.add_lit, Nat.zero_add, (tt2).cell]; simpa using hx) (by simp [Value.oneCell']) (by unfold maxLen; omega) (by omega) (be2).size ?_
                  intro v' wc hown hgrow _
                  obtain ⟨aa1, ac1, rfl⟩ := row_form hown
                  have rs3 := (rs2).kept hgrow (rows_apart (rs2) (rl2) (by decide))
                  have bx3 : Box wc wr.heap.size #[.int .i64 dy, .string tg, .int .i64 wh] 70 := (hgrow.block _ (bx2).lt (box_not (bx2) (rl2) (by decide))).trans (bx2)
                  have be3 := (be2).grown hgrow (be2).size (row_ge (rl2))
                  have rl3 := hown
                  refine hK.out _ _ bx3 ?_
                  clear hK K
                  (refine PlanS.free (v := ?_) rfl (by rfl) (fun W hW => ?_) ?_; rotate_left; (go_simp; with_reducible rfl); simp only [_root_.Go.Act.put, List.setIfInBounds_toArray, List.set_cons_zero, List.set_cons_succ])
                  (refine PlanS.free (v := ?_) rfl (by rfl) (fun W hW => ?_) ?_; rotate_left; (go_simp; with_reducible rfl); simp only [_root_.Go.Act.put, List.setIfInBounds_toArray, List.set_cons_zero, List.set_cons_succ])
                  refine PlanS.end' ?_
                  have HTw : Hid (wc.ownsRow w.heap.size 9 1 (.slice ta1 (sl + 1) tc1) (sl + 1) (((s ++ [(tg, (sx, px))]).map (·.1)).map Value.string)) := Lib.hid (by rw [List.map_append, List.map_append]; exact rs3)
                  have HLw : Hid (wc.ownsRow w.heap.size 110 3 (.slice aa1 (sl + 1) ac1) (sl + 1) (lifeCells (s ++ [(tg, (sx, px))]))) := Lib.hid (by rw [lifeCells_snoc, HS0.out, HP0.out]; exact rl3)
                  have HBw := Lib.hid (be3)
                  have ca0 : wc.cell? ⟨wr.heap.size, 0, none⟩ = some (.int .i64 dy) := (bx3).cell 0
                  have ca1 : wc.cell? ⟨wr.heap.size, 1, none⟩ = some (.string tg) := (bx3).cell 1
                  have ca2 : wc.cell? ⟨wr.heap.size, 2, none⟩ = some (.int .i64 wh) := (bx3).cell 2
                  have hsz : wr.heap.size < wc.heap.size := (bx3).lt
                  have hrow := HLw.out
                  rcases hrow.2 with ⟨_, h0⟩ | ⟨g2, cap2, cur2, h2, _, hgb, _, _, _, _⟩
                  · omega
                  simp only [Value.slice.injEq] at h2
                  obtain ⟨rfl, _, rfl⟩ := h2
                  have hg2l : g2 < wc.heap.size := lt_of_block hgb
                  have lc : ∀ j, j < 3 → wc.cell? ⟨g2, sl * 3 + j, none⟩ = ([.string tg, .int .i64 sx, .int .i64 px] : List Value)[j]? := fun j hj => by
                    have h := lifeCells_at HPP.out j hj
                    cases e : ([.string tg, .int .i64 sx, .int .i64 px] : List Value)[j]? with
                    | none => match j, hj with
                      | 0, _ => cases e
                      | 1, _ => cases e
                      | 2, _ => cases e
                    | some v =>
                      rw [e] at h
                      have := hrow.cells (g := g2) rfl (sl * 3 + j) v h
                      rwa [Addr.add_lit, Nat.zero_add] at this
                  have c0 : wc.cell? ⟨g2, sl * 3, none⟩ = some (.string tg) := lc 0 (by omega)
                  have c1 : wc.cell? ⟨g2, sl * 3 + 1, none⟩ = some (.int .i64 sx) := lc 1 (by omega)
                  have c2 : wc.cell? ⟨g2, sl * 3 + 2, none⟩ = some (.int .i64 px) := lc 2 (by omega)
                  have q0 : wc.frozen? ⟨g2, sl * 3, none⟩ = false := hrow.frozenAt _
                  have q1 : wc.frozen? ⟨g2, sl * 3 + 1, none⟩ = false := hrow.frozenAt _
                  have q2 : wc.frozen? ⟨g2, sl * 3 + 2, none⟩ = false := hrow.frozenAt _
                  have hgne : g2 ≠ wc.heap.size := by omega
                  have hane : wr.heap.size ≠ wc.heap.size := by omega
                  have HAP : Hid ((Value.slice ta1 (sl + 1) tc1).ownBlock ≠ some g2) := Lib.hid fun e => by
                    rcases rows_apart HTw.out HLw.out (by decide) with q | q
                    · rw [q] at e; cases e
                    · exact q (e.trans rfl)
                  have hws : IntKind.i64.wrap (dy - px) = dy - px := by rw [IntKind.wrap_i64]; omega
                  have hxc := (HX.out _ HBw.out).2
                  clear hrow hgb lc
                  by_cases h2 : wh = 2
                  · have hb1 : (wh == 2) = true := by simp [h2]
                    have hb2 : (wh == 1) = false := by simp [h2]
                    by_cases h3 : dy - px < 1000
                    · have hd : decide (dy - px < 1000) = true := by simpa using h3
                      have HFE := Lib.hid (HER.out (by rw [HST.out]; (try dsimp only); rw [HLF.out]; unfold afterM; rw [if_pos ⟨h2, h3⟩]; rfl))
                      clear h2 h3
                      go_wp2_with fail
                      refine bodyPost_ret (v := .tuple #[.slice none 0 0, .slice none 0 0, .int .i64 (i : Int), .int .i64 13]) (by simp [results, Tryd.results37, go_sem]) rfl ⟨.slice none 0 0, .slice none 0 0, ?_⟩
                      rw [HFE.out]
                      exact ⟨rfl, World.ownsRow_nil _ _ _ _, World.ownsRow_nil _ _ _ _, HBw.out.alloc hxc _⟩
                    · have hd : decide (dy - px < 1000) = false := by simpa using h3
                      have HAM : Hid (afterM sx px dy wh = (thenM sx wh).map fun t => (t, px)) := Lib.hid (by unfold afterM; rw [if_neg (by intro q; exact h3 q.2), h2]; rfl)
                      clear h2 h3
                      cases htm : thenM sx wh with
                      | none =>
                        have HTH : Hid (thenI sx wh = -1) := Lib.hid (by unfold thenI; rw [htm]; rfl)
                        have HFE := Lib.hid (HER.out (by rw [HST.out]; (try dsimp only); rw [HLF.out]; (try dsimp only); rw [HAM.out, htm]; rfl))
                        clear htm
                        go_wp2_with fail
                        refine (refThen_any sx wh _ hsx hwh).mono ?_
                        rw [HTH.out]
                        rintro e w' ⟨rfl, rfl⟩
                        go_wp2_with fail
                        refine bodyPost_ret (v := .tuple #[.slice none 0 0, .slice none 0 0, .int .i64 (i : Int), .int .i64 13]) (by simp [results, Tryd.results37, go_sem]) rfl ⟨.slice none 0 0, .slice none 0 0, ?_⟩
                        rw [HFE.out]
                        exact ⟨rfl, World.ownsRow_nil _ _ _ _, World.ownsRow_nil _ _ _ _, (HBw.out.alloc hxc _)⟩
                      | some tt =>
                        have HTH : Hid (thenI sx wh = tt) := Lib.hid (by unfold thenI; rw [htm]; rfl)
                        have htt := then_cases htm
                        have HNX2 := Lib.hid (HNX.out (dy, putL s tg (tt, px)) (by rw [HST.out]; (try dsimp only); rw [HLF.out]; (try dsimp only); rw [HAM.out, htm]; rfl))
                        have htt0 : 0 ≤ tt := by omega
                        clear htm htt
                        go_wp2_with fail
                        refine (refThen_any sx wh _ hsx hwh).mono ?_
                        rw [HTH.out]
                        rintro e w' ⟨rfl, rfl⟩
                        have hap := HAP.out
                        have hge2 := row_ge HLw.out g2 rfl
                        have hks : sl < ((s ++ [(tg, (sx, px))])).length := by rw [HSL1.out]; exact hkl
                        have HRT := Lib.hid ((ownsRow_setCell_other (ownsRow_setCell_other (ownsRow_setCell_other HTw.out (a := ⟨g2, sl * 3, none⟩) hap (.string tg)) (a := ⟨g2, sl * 3 + 1, none⟩) hap (.int .i64 tt)) (a := ⟨g2, sl * 3 + 2, none⟩) hap (.int .i64 (px))).alloc (.cells #[.string tg, .int .i64 tt, .int .i64 (px)] 110))
                        have hr3 := (((HLw.out.stored (sl * 3) (.string tg)).1.stored (sl * 3 + 1) (.int .i64 tt)).1.stored (sl * 3 + 2) (.int .i64 (px))).1.alloc (.cells #[.string tg, .int .i64 tt, .int .i64 (px)] 110)
                        have hls := lifeCells_set hks (tg, (tt, px))
                        dsimp only at hls
                        rw [hls] at hr3
                        have HRL := Lib.hid hr3
                        have HBE := Lib.hid ((((HBw.out.setCell (p := ⟨g2, sl * 3, none⟩) hge2 (.string tg)).setCell (p := ⟨g2, sl * 3 + 1, none⟩) hge2 (.int .i64 tt)).setCell (p := ⟨g2, sl * 3 + 2, none⟩) hge2 (.int .i64 (px))).alloc (by simpa using hxc) (.cells #[.string tg, .int .i64 tt, .int .i64 (px)] 110))
                        have HMS := Lib.hid (map_set_same HPP.out (tt, px))
                        clear hap hge2 hks hr3 hls
                        go_wp2_with fail
                        go_roundw
                        case rel => exact ⟨i + 1, dy, ((s ++ [(tg, (sx, px))])).set sl (tg, (tt, px)), (sl + 1), ta1, tc1, some ⟨g2, 0, none⟩, ac1, by omega, by omega, by go_num, rfl, rfl, Lib.hid (by rw [List.length_set]; exact HSL1.out), Lib.hid (by rw [← HPU.out]; exact HNX2.out), Lib.hid (by rw [HMS.out]; exact HRT.out), HRL, HBE⟩
                        case measure => simp [intOf]; omega
                  by_cases h1 : wh = 1
                  · have hb1 : (wh == 2) = false := by simpa using h2
                    have hb2 : (wh == 1) = true := by simp [h1]
                    have HAM : Hid (afterM sx px dy wh = (thenM sx wh).map fun t => (t, dy)) := Lib.hid (by unfold afterM; rw [if_neg (by intro q; exact h2 q.1), h1]; rfl)
                    clear h2 h1
                    cases htm : thenM sx wh with
                    | none =>
                      have HTH : Hid (thenI sx wh = -1) := Lib.hid (by unfold thenI; rw [htm]; rfl)
                      have HFE := Lib.hid (HER.out (by rw [HST.out]; (try dsimp only); rw [HLF.out]; (try dsimp only); rw [HAM.out, htm]; rfl))
                      clear htm
                      go_wp2_with fail
                      refine (refThen_any sx wh _ hsx hwh).mono ?_
                      rw [HTH.out]
                      rintro e w' ⟨rfl, rfl⟩
                      go_wp2_with fail
                      refine bodyPost_ret (v := .tuple #[.slice none 0 0, .slice none 0 0, .int .i64 (i : Int), .int .i64 13]) (by simp [results, Tryd.results37, go_sem]) rfl ⟨.slice none 0 0, .slice none 0 0, ?_⟩
                      rw [HFE.out]
                      exact ⟨rfl, World.ownsRow_nil _ _ _ _, World.ownsRow_nil _ _ _ _, (HBw.out.alloc hxc _)⟩
                    | some tt =>
                      have HTH : Hid (thenI sx wh = tt) := Lib.hid (by unfold thenI; rw [htm]; rfl)
                      have htt := then_cases htm
                      have HNX2 := Lib.hid (HNX.out (dy, putL s tg (tt, dy)) (by rw [HST.out]; (try dsimp only); rw [HLF.out]; (try dsimp only); rw [HAM.out, htm]; rfl))
                      have htt0 : 0 ≤ tt := by omega
                      clear htm htt
                      go_wp2_with fail
                      refine (refThen_any sx wh _ hsx hwh).mono ?_
                      rw [HTH.out]
                      rintro e w' ⟨rfl, rfl⟩
                      have hap := HAP.out
                      have hge2 := row_ge HLw.out g2 rfl
                      have hks : sl < ((s ++ [(tg, (sx, px))])).length := by rw [HSL1.out]; exact hkl
                      have HRT := Lib.hid ((ownsRow_setCell_other (ownsRow_setCell_other (ownsRow_setCell_other HTw.out (a := ⟨g2, sl * 3, none⟩) hap (.string tg)) (a := ⟨g2, sl * 3 + 1, none⟩) hap (.int .i64 tt)) (a := ⟨g2, sl * 3 + 2, none⟩) hap (.int .i64 (dy))).alloc (.cells #[.string tg, .int .i64 tt, .int .i64 (dy)] 110))
                      have hr3 := (((HLw.out.stored (sl * 3) (.string tg)).1.stored (sl * 3 + 1) (.int .i64 tt)).1.stored (sl * 3 + 2) (.int .i64 (dy))).1.alloc (.cells #[.string tg, .int .i64 tt, .int .i64 (dy)] 110)
                      have hls := lifeCells_set hks (tg, (tt, dy))
                      dsimp only at hls
                      rw [hls] at hr3
                      have HRL := Lib.hid hr3
                      have HBE := Lib.hid ((((HBw.out.setCell (p := ⟨g2, sl * 3, none⟩) hge2 (.string tg)).setCell (p := ⟨g2, sl * 3 + 1, none⟩) hge2 (.int .i64 tt)).setCell (p := ⟨g2, sl * 3 + 2, none⟩) hge2 (.int .i64 (dy))).alloc (by simpa using hxc) (.cells #[.string tg, .int .i64 tt, .int .i64 (dy)] 110))
                      have HMS := Lib.hid (map_set_same HPP.out (tt, dy))
                      clear hap hge2 hks hr3 hls
                      go_wp2_with fail
                      go_roundw
                      case rel => exact ⟨i + 1, dy, ((s ++ [(tg, (sx, px))])).set sl (tg, (tt, dy)), (sl + 1), ta1, tc1, some ⟨g2, 0, none⟩, ac1, by omega, by omega, by go_num, rfl, rfl, Lib.hid (by rw [List.length_set]; exact HSL1.out), Lib.hid (by rw [← HPU.out]; exact HNX2.out), Lib.hid (by rw [HMS.out]; exact HRT.out), HRL, HBE⟩
                      case measure => simp [intOf]; omega
                  · have hb1 : (wh == 2) = false := by simpa using h2
                    have hb2 : (wh == 1) = false := by simpa using h1
                    have HAM : Hid (afterM sx px dy wh = (thenM sx wh).map fun t => (t, px)) := Lib.hid (by unfold afterM; rw [if_neg (by intro q; exact h2 q.1), if_neg h1])
                    clear h2 h1
                    cases htm : thenM sx wh with
                    | none =>
                      have HTH : Hid (thenI sx wh = -1) := Lib.hid (by unfold thenI; rw [htm]; rfl)
                      have HFE := Lib.hid (HER.out (by rw [HST.out]; (try dsimp only); rw [HLF.out]; (try dsimp only); rw [HAM.out, htm]; rfl))
                      clear htm
                      go_wp2_with fail
                      refine (refThen_any sx wh _ hsx hwh).mono ?_
                      rw [HTH.out]
                      rintro e w' ⟨rfl, rfl⟩
                      go_wp2_with fail
                      refine bodyPost_ret (v := .tuple #[.slice none 0 0, .slice none 0 0, .int .i64 (i : Int), .int .i64 13]) (by simp [results, Tryd.results37, go_sem]) rfl ⟨.slice none 0 0, .slice none 0 0, ?_⟩
                      rw [HFE.out]
                      exact ⟨rfl, World.ownsRow_nil _ _ _ _, World.ownsRow_nil _ _ _ _, (HBw.out.alloc hxc _)⟩
                    | some tt =>
                      have HTH : Hid (thenI sx wh = tt) := Lib.hid (by unfold thenI; rw [htm]; rfl)
                      have htt := then_cases htm
                      have HNX2 := Lib.hid (HNX.out (dy, putL s tg (tt, px)) (by rw [HST.out]; (try dsimp only); rw [HLF.out]; (try dsimp only); rw [HAM.out, htm]; rfl))
                      have htt0 : 0 ≤ tt := by omega
                      clear htm htt
                      go_wp2_with fail
                      refine (refThen_any sx wh _ hsx hwh).mono ?_
                      rw [HTH.out]
                      rintro e w' ⟨rfl, rfl⟩
                      have hap := HAP.out
                      have hge2 := row_ge HLw.out g2 rfl
                      have hks : sl < ((s ++ [(tg, (sx, px))])).length := by rw [HSL1.out]; exact hkl
                      have HRT := Lib.hid ((ownsRow_setCell_other (ownsRow_setCell_other (ownsRow_setCell_other HTw.out (a := ⟨g2, sl * 3, none⟩) hap (.string tg)) (a := ⟨g2, sl * 3 + 1, none⟩) hap (.int .i64 tt)) (a := ⟨g2, sl * 3 + 2, none⟩) hap (.int .i64 (px))).alloc (.cells #[.string tg, .int .i64 tt, .int .i64 (px)] 110))
                      have hr3 := (((HLw.out.stored (sl * 3) (.string tg)).1.stored (sl * 3 + 1) (.int .i64 tt)).1.stored (sl * 3 + 2) (.int .i64 (px))).1.alloc (.cells #[.string tg, .int .i64 tt, .int .i64 (px)] 110)
                      have hls := lifeCells_set hks (tg, (tt, px))
                      dsimp only at hls
                      rw [hls] at hr3
                      have HRL := Lib.hid hr3
                      have HBE := Lib.hid ((((HBw.out.setCell (p := ⟨g2, sl * 3, none⟩) hge2 (.string tg)).setCell (p := ⟨g2, sl * 3 + 1, none⟩) hge2 (.int .i64 tt)).setCell (p := ⟨g2, sl * 3 + 2, none⟩) hge2 (.int .i64 (px))).alloc (by simpa using hxc) (.cells #[.string tg, .int .i64 tt, .int .i64 (px)] 110))
                      have HMS := Lib.hid (map_set_same HPP.out (tt, px))
                      clear hap hge2 hks hr3 hls
                      go_wp2_with fail
                      go_roundw
                      case rel => exact ⟨i + 1, dy, ((s ++ [(tg, (sx, px))])).set sl (tg, (tt, px)), (sl + 1), ta1, tc1, some ⟨g2, 0, none⟩, ac1, by omega, by omega, by go_num, rfl, rfl, Lib.hid (by rw [List.length_set]; exact HSL1.out), Lib.hid (by rw [← HPU.out]; exact HNX2.out), Lib.hid (by rw [HMS.out]; exact HRT.out), HRL, HBE⟩
                      case measure => simp [intOf]; omega
                · skip
                  have rs1 := (rs0).alloc (.cells #[.string tg, .int .i64 0, .int .i64 0] 110)
                  have rl1 := (rl0).alloc (.cells #[.string tg, .int .i64 0, .int .i64 0] 110)
                  have bx1 := (bx0).alloc (.cells #[.string tg, .int .i64 0, .int .i64 0] 110)
                  have be1 := (be0).alloc (be0).size (.cells #[.string tg, .int .i64 0, .int .i64 0] 110)
                  have tt1 := Box.new (((wc).alloc (.cells #[.string tg] 9))) #[.string tg, .int .i64 0, .int .i64 0] 110
                  try simp only [World.size_alloc] at tt1
                  have to1 := (tt0).alloc (.cells #[.string tg, .int .i64 0, .int .i64 0] 110)
                  (refine wpOp_planS rfl (by rfl) (fun K hK => ?_); go_simp)
                  refine hK.out _ _ bx1 ?_
                  clear hK K
                  refine PlanS.call rfl (by rfl) (fun K hK => ?_)
                  refine wp_append_own _ (.tmp 67) (.tmp 70) 51 rfl w.heap.size 9 i0 (.string ⟨#[]⟩) 1 16 Tryd.underlying51 hi0 hz0 hz1 hz2 rfl (by decide) (.slice ta sl tc) sl ((s.map (·.1)).map Value.string) rfl ((rs1).drew) ⟨wc.heap.size, 0, none⟩ 1 1 [.string tg] rfl (by rfl) (fun j x hx => by rw [Addr.add_lit, Nat.zero_add, ((to1).drew).cell]; simpa using hx) (by simp [Value.oneCell']) (by unfold maxLen; omega) (by omega) ((be1).drew).size ?_
                  intro v' wv hown hgrow _
                  obtain ⟨ta1, tc1, rfl⟩ := row_form hown
                  have rl2 := ((rl1).drew).kept hgrow (rows_apart ((rl1).drew) ((rs1).drew) (by decide))
                  have bx2 : Box wv wr.heap.size #[.int .i64 dy, .string tg, .int .i64 wh] 70 := (hgrow.block _ ((bx1).drew).lt (box_not ((bx1).drew) ((rs1).drew) (by decide))).trans ((bx1).drew)
                  have be2 := ((be1).drew).grown hgrow ((be1).drew).size (row_ge ((rs1).drew))
                  have to2 : Box wv _ #[.string tg, .int .i64 0, .int .i64 0] 110 := (hgrow.block _ ((tt1).drew).lt (box_not ((tt1).drew) ((rs1).drew) (by decide))).trans ((tt1).drew)
                  have rs2 := hown
                  refine hK.out _ _ bx2 ?_
                  clear hK K
                  refine PlanS.call rfl (by rfl) (fun K hK => ?_)
                  refine wp_append_own _ (.tmp 72) (.tmp 76) 107 rfl w.heap.size 110 j0 zl 3 32 Tryd.underlying107 hj0 hzl hj1 hj2 hzs (by decide) (.slice aa sl ac) sl (lifeCells s) rfl (rl2) ⟨wc.heap.size + 1, 0, none⟩ 1 1 [.string tg, .int .i64 0, .int .i64 0] rfl (by rfl) (fun j x hx => by rw [Addr.add_lit, Nat.zero_add, (to2).cell]; simpa using hx) (by simp [Value.oneCell']) (by unfold maxLen; omega) (by omega) (be2).size ?_
                  intro v' wc hown hgrow _
                  obtain ⟨aa1, ac1, rfl⟩ := row_form hown
                  have rs3 := (rs2).kept hgrow (rows_apart (rs2) (rl2) (by decide))
                  have bx3 : Box wc wr.heap.size #[.int .i64 dy, .string tg, .int .i64 wh] 70 := (hgrow.block _ (bx2).lt (box_not (bx2) (rl2) (by decide))).trans (bx2)
                  have be3 := (be2).grown hgrow (be2).size (row_ge (rl2))
                  have rl3 := hown
                  refine hK.out _ _ bx3 ?_
                  clear hK K
                  (refine PlanS.free (v := ?_) rfl (by rfl) (fun W hW => ?_) ?_; rotate_left; (go_simp; with_reducible rfl); simp only [_root_.Go.Act.put, List.setIfInBounds_toArray, List.set_cons_zero, List.set_cons_succ])
                  (refine PlanS.free (v := ?_) rfl (by rfl) (fun W hW => ?_) ?_; rotate_left; (go_simp; with_reducible rfl); simp only [_root_.Go.Act.put, List.setIfInBounds_toArray, List.set_cons_zero, List.set_cons_succ])
                  refine PlanS.end' ?_
                  have HTw : Hid (wc.ownsRow w.heap.size 9 1 (.slice ta1 (sl + 1) tc1) (sl + 1) (((s ++ [(tg, (sx, px))]).map (·.1)).map Value.string)) := Lib.hid (by rw [List.map_append, List.map_append]; exact rs3)
                  have HLw : Hid (wc.ownsRow w.heap.size 110 3 (.slice aa1 (sl + 1) ac1) (sl + 1) (lifeCells (s ++ [(tg, (sx, px))]))) := Lib.hid (by rw [lifeCells_snoc, HS0.out, HP0.out]; exact rl3)
                  have HBw := Lib.hid (be3)
                  have ca0 : wc.cell? ⟨wr.heap.size, 0, none⟩ = some (.int .i64 dy) := (bx3).cell 0
                  have ca1 : wc.cell? ⟨wr.heap.size, 1, none⟩ = some (.string tg) := (bx3).cell 1
                  have ca2 : wc.cell? ⟨wr.heap.size, 2, none⟩ = some (.int .i64 wh) := (bx3).cell 2
                  have hsz : wr.heap.size < wc.heap.size := (bx3).lt
                  have hrow := HLw.out
                  rcases hrow.2 with ⟨_, h0⟩ | ⟨g2, cap2, cur2, h2, _, hgb, _, _, _, _⟩
                  · omega
                  simp only [Value.slice.injEq] at h2
                  obtain ⟨rfl, _, rfl⟩ := h2
                  have hg2l : g2 < wc.heap.size := lt_of_block hgb
                  have lc : ∀ j, j < 3 → wc.cell? ⟨g2, sl * 3 + j, none⟩ = ([.string tg, .int .i64 sx, .int .i64 px] : List Value)[j]? := fun j hj => by
                    have h := lifeCells_at HPP.out j hj
                    cases e : ([.string tg, .int .i64 sx, .int .i64 px] : List Value)[j]? with
                    | none => match j, hj with
                      | 0, _ => cases e
                      | 1, _ => cases e
                      | 2, _ => cases e
                    | some v =>
                      rw [e] at h
                      have := hrow.cells (g := g2) rfl (sl * 3 + j) v h
                      rwa [Addr.add_lit, Nat.zero_add] at this
                  have c0 : wc.cell? ⟨g2, sl * 3, none⟩ = some (.string tg) := lc 0 (by omega)
                  have c1 : wc.cell? ⟨g2, sl * 3 + 1, none⟩ = some (.int .i64 sx) := lc 1 (by omega)
                  have c2 : wc.cell? ⟨g2, sl * 3 + 2, none⟩ = some (.int .i64 px) := lc 2 (by omega)
                  have q0 : wc.frozen? ⟨g2, sl * 3, none⟩ = false := hrow.frozenAt _
                  have q1 : wc.frozen? ⟨g2, sl * 3 + 1, none⟩ = false := hrow.frozenAt _
                  have q2 : wc.frozen? ⟨g2, sl * 3 + 2, none⟩ = false := hrow.frozenAt _
                  have hgne : g2 ≠ wc.heap.size := by omega
                  have hane : wr.heap.size ≠ wc.heap.size := by omega
                  have HAP : Hid ((Value.slice ta1 (sl + 1) tc1).ownBlock ≠ some g2) := Lib.hid fun e => by
                    rcases rows_apart HTw.out HLw.out (by decide) with q | q
                    · rw [q] at e; cases e
                    · exact q (e.trans rfl)
                  have hws : IntKind.i64.wrap (dy - px) = dy - px := by rw [IntKind.wrap_i64]; omega
                  have hxc := (HX.out _ HBw.out).2
                  clear hrow hgb lc
                  by_cases h2 : wh = 2
                  · have hb1 : (wh == 2) = true := by simp [h2]
                    have hb2 : (wh == 1) = false := by simp [h2]
                    by_cases h3 : dy - px < 1000
                    · have hd : decide (dy - px < 1000) = true := by simpa using h3
                      have HFE := Lib.hid (HER.out (by rw [HST.out]; (try dsimp only); rw [HLF.out]; unfold afterM; rw [if_pos ⟨h2, h3⟩]; rfl))
                      clear h2 h3
                      go_wp2_with fail
                      refine bodyPost_ret (v := .tuple #[.slice none 0 0, .slice none 0 0, .int .i64 (i : Int), .int .i64 13]) (by simp [results, Tryd.results37, go_sem]) rfl ⟨.slice none 0 0, .slice none 0 0, ?_⟩
                      rw [HFE.out]
                      exact ⟨rfl, World.ownsRow_nil _ _ _ _, World.ownsRow_nil _ _ _ _, HBw.out.alloc hxc _⟩
                    · have hd : decide (dy - px < 1000) = false := by simpa using h3
                      have HAM : Hid (afterM sx px dy wh = (thenM sx wh).map fun t => (t, px)) := Lib.hid (by unfold afterM; rw [if_neg (by intro q; exact h3 q.2), h2]; rfl)
                      clear h2 h3
                      cases htm : thenM sx wh with
                      | none =>
                        have HTH : Hid (thenI sx wh = -1) := Lib.hid (by unfold thenI; rw [htm]; rfl)
                        have HFE := Lib.hid (HER.out (by rw [HST.out]; (try dsimp only); rw [HLF.out]; (try dsimp only); rw [HAM.out, htm]; rfl))
                        clear htm
                        go_wp2_with fail
                        refine (refThen_any sx wh _ hsx hwh).mono ?_
                        rw [HTH.out]
                        rintro e w' ⟨rfl, rfl⟩
                        go_wp2_with fail
                        refine bodyPost_ret (v := .tuple #[.slice none 0 0, .slice none 0 0, .int .i64 (i : Int), .int .i64 13]) (by simp [results, Tryd.results37, go_sem]) rfl ⟨.slice none 0 0, .slice none 0 0, ?_⟩
                        rw [HFE.out]
                        exact ⟨rfl, World.ownsRow_nil _ _ _ _, World.ownsRow_nil _ _ _ _, (HBw.out.alloc hxc _)⟩
                      | some tt =>
                        have HTH : Hid (thenI sx wh = tt) := Lib.hid (by unfold thenI; rw [htm]; rfl)
                        have htt := then_cases htm
                        have HNX2 := Lib.hid (HNX.out (dy, putL s tg (tt, px)) (by rw [HST.out]; (try dsimp only); rw [HLF.out]; (try dsimp only); rw [HAM.out, htm]; rfl))
                        have htt0 : 0 ≤ tt := by omega
                        clear htm htt
                        go_wp2_with fail
                        refine (refThen_any sx wh _ hsx hwh).mono ?_
                        rw [HTH.out]
                        rintro e w' ⟨rfl, rfl⟩
                        have hap := HAP.out
                        have hge2 := row_ge HLw.out g2 rfl
                        have hks : sl < ((s ++ [(tg, (sx, px))])).length := by rw [HSL1.out]; exact hkl
                        have HRT := Lib.hid ((ownsRow_setCell_other (ownsRow_setCell_other (ownsRow_setCell_other HTw.out (a := ⟨g2, sl * 3, none⟩) hap (.string tg)) (a := ⟨g2, sl * 3 + 1, none⟩) hap (.int .i64 tt)) (a := ⟨g2, sl * 3 + 2, none⟩) hap (.int .i64 (px))).alloc (.cells #[.string tg, .int .i64 tt, .int .i64 (px)] 110))
                        have hr3 := (((HLw.out.stored (sl * 3) (.string tg)).1.stored (sl * 3 + 1) (.int .i64 tt)).1.stored (sl * 3 + 2) (.int .i64 (px))).1.alloc (.cells #[.string tg, .int .i64 tt, .int .i64 (px)] 110)
                        have hls := lifeCells_set hks (tg, (tt, px))
                        dsimp only at hls
                        rw [hls] at hr3
                        have HRL := Lib.hid hr3
                        have HBE := Lib.hid ((((HBw.out.setCell (p := ⟨g2, sl * 3, none⟩) hge2 (.string tg)).setCell (p := ⟨g2, sl * 3 + 1, none⟩) hge2 (.int .i64 tt)).setCell (p := ⟨g2, sl * 3 + 2, none⟩) hge2 (.int .i64 (px))).alloc (by simpa using hxc) (.cells #[.string tg, .int .i64 tt, .int .i64 (px)] 110))
                        have HMS := Lib.hid (map_set_same HPP.out (tt, px))
                        clear hap hge2 hks hr3 hls
                        go_wp2_with fail
                        go_roundw
                        case rel => exact ⟨i + 1, dy, ((s ++ [(tg, (sx, px))])).set sl (tg, (tt, px)), (sl + 1), ta1, tc1, some ⟨g2, 0, none⟩, ac1, by omega, by omega, by go_num, rfl, rfl, Lib.hid (by rw [List.length_set]; exact HSL1.out), Lib.hid (by rw [← HPU.out]; exact HNX2.out), Lib.hid (by rw [HMS.out]; exact HRT.out), HRL, HBE⟩
                        case measure => simp [intOf]; omega
                  by_cases h1 : wh = 1
                  · have hb1 : (wh == 2) = false := by simpa using h2
                    have hb2 : (wh == 1) = true := by simp [h1]
                    have HAM : Hid (afterM sx px dy wh = (thenM sx wh).map fun t => (t, dy)) := Lib.hid (by unfold afterM; rw [if_neg (by intro q; exact h2 q.1), h1]; rfl)
                    clear h2 h1
                    cases htm : thenM sx wh with
                    | none =>
                      have HTH : Hid (thenI sx wh = -1) := Lib.hid (by unfold thenI; rw [htm]; rfl)
                      have HFE := Lib.hid (HER.out (by rw [HST.out]; (try dsimp only); rw [HLF.out]; (try dsimp only); rw [HAM.out, htm]; rfl))
                      clear htm
                      go_wp2_with fail
                      refine (refThen_any sx wh _ hsx hwh).mono ?_
                      rw [HTH.out]
                      rintro e w' ⟨rfl, rfl⟩
                      go_wp2_with fail
                      refine bodyPost_ret (v := .tuple #[.slice none 0 0, .slice none 0 0, .int .i64 (i : Int), .int .i64 13]) (by simp [results, Tryd.results37, go_sem]) rfl ⟨.slice none 0 0, .slice none 0 0, ?_⟩
                      rw [HFE.out]
                      exact ⟨rfl, World.ownsRow_nil _ _ _ _, World.ownsRow_nil _ _ _ _, (HBw.out.alloc hxc _)⟩
                    | some tt =>
                      have HTH : Hid (thenI sx wh = tt) := Lib.hid (by unfold thenI; rw [htm]; rfl)
                      have htt := then_cases htm
                      have HNX2 := Lib.hid (HNX.out (dy, putL s tg (tt, dy)) (by rw [HST.out]; (try dsimp only); rw [HLF.out]; (try dsimp only); rw [HAM.out, htm]; rfl))
                      have htt0 : 0 ≤ tt := by omega
                      clear htm htt
                      go_wp2_with fail
                      refine (refThen_any sx wh _ hsx hwh).mono ?_
                      rw [HTH.out]
                      rintro e w' ⟨rfl, rfl⟩
                      have hap := HAP.out
                      have hge2 := row_ge HLw.out g2 rfl
                      have hks : sl < ((s ++ [(tg, (sx, px))])).length := by rw [HSL1.out]; exact hkl
                      have HRT := Lib.hid ((ownsRow_setCell_other (ownsRow_setCell_other (ownsRow_setCell_other HTw.out (a := ⟨g2, sl * 3, none⟩) hap (.string tg)) (a := ⟨g2, sl * 3 + 1, none⟩) hap (.int .i64 tt)) (a := ⟨g2, sl * 3 + 2, none⟩) hap (.int .i64 (dy))).alloc (.cells #[.string tg, .int .i64 tt, .int .i64 (dy)] 110))
                      have hr3 := (((HLw.out.stored (sl * 3) (.string tg)).1.stored (sl * 3 + 1) (.int .i64 tt)).1.stored (sl * 3 + 2) (.int .i64 (dy))).1.alloc (.cells #[.string tg, .int .i64 tt, .int .i64 (dy)] 110)
                      have hls := lifeCells_set hks (tg, (tt, dy))
                      dsimp only at hls
                      rw [hls] at hr3
                      have HRL := Lib.hid hr3
                      have HBE := Lib.hid ((((HBw.out.setCell (p := ⟨g2, sl * 3, none⟩) hge2 (.string tg)).setCell (p := ⟨g2, sl * 3 + 1, none⟩) hge2 (.int .i64 tt)).setCell (p := ⟨g2, sl * 3 + 2, none⟩) hge2 (.int .i64 (dy))).alloc (by simpa using hxc) (.cells #[.string tg, .int .i64 tt, .int .i64 (dy)] 110))
                      have HMS := Lib.hid (map_set_same HPP.out (tt, dy))
                      clear hap hge2 hks hr3 hls
                      go_wp2_with fail
                      go_roundw
                      case rel => exact ⟨i + 1, dy, ((s ++ [(tg, (sx, px))])).set sl (tg, (tt, dy)), (sl + 1), ta1, tc1, some ⟨g2, 0, none⟩, ac1, by omega, by omega, by go_num, rfl, rfl, Lib.hid (by rw [List.length_set]; exact HSL1.out), Lib.hid (by rw [← HPU.out]; exact HNX2.out), Lib.hid (by rw [HMS.out]; exact HRT.out), HRL, HBE⟩
                      case measure => simp [intOf]; omega
                  · have hb1 : (wh == 2) = false := by simpa using h2
                    have hb2 : (wh == 1) = false := by simpa using h1
                    have HAM : Hid (afterM sx px dy wh = (thenM sx wh).map fun t => (t, px)) := Lib.hid (by unfold afterM; rw [if_neg (by intro q; exact h2 q.1), if_neg h1])
                    clear h2 h1
                    cases htm : thenM sx wh with
                    | none =>
                      have HTH : Hid (thenI sx wh = -1) := Lib.hid (by unfold thenI; rw [htm]; rfl)
                      have HFE := Lib.hid (HER.out (by rw [HST.out]; (try dsimp only); rw [HLF.out]; (try dsimp only); rw [HAM.out, htm]; rfl))
                      clear htm
                      go_wp2_with fail
                      refine (refThen_any sx wh _ hsx hwh).mono ?_
                      rw [HTH.out]
                      rintro e w' ⟨rfl, rfl⟩
                      go_wp2_with fail
                      refine bodyPost_ret (v := .tuple #[.slice none 0 0, .slice none 0 0, .int .i64 (i : Int), .int .i64 13]) (by simp [results, Tryd.results37, go_sem]) rfl ⟨.slice none 0 0, .slice none 0 0, ?_⟩
                      rw [HFE.out]
                      exact ⟨rfl, World.ownsRow_nil _ _ _ _, World.ownsRow_nil _ _ _ _, (HBw.out.alloc hxc _)⟩
                    | some tt =>
                      have HTH : Hid (thenI sx wh = tt) := Lib.hid (by unfold thenI; rw [htm]; rfl)
                      have htt := then_cases htm
                      have HNX2 := Lib.hid (HNX.out (dy, putL s tg (tt, px)) (by rw [HST.out]; (try dsimp only); rw [HLF.out]; (try dsimp only); rw [HAM.out, htm]; rfl))
                      have htt0 : 0 ≤ tt := by omega
                      clear htm htt
                      go_wp2_with fail
                      refine (refThen_any sx wh _ hsx hwh).mono ?_
                      rw [HTH.out]
                      rintro e w' ⟨rfl, rfl⟩
                      have hap := HAP.out
                      have hge2 := row_ge HLw.out g2 rfl
                      have hks : sl < ((s ++ [(tg, (sx, px))])).length := by rw [HSL1.out]; exact hkl
                      have HRT := Lib.hid ((ownsRow_setCell_other (ownsRow_setCell_other (ownsRow_setCell_other HTw.out (a := ⟨g2, sl * 3, none⟩) hap (.string tg)) (a := ⟨g2, sl * 3 + 1, none⟩) hap (.int .i64 tt)) (a := ⟨g2, sl * 3 + 2, none⟩) hap (.int .i64 (px))).alloc (.cells #[.string tg, .int .i64 tt, .int .i64 (px)] 110))
                      have hr3 := (((HLw.out.stored (sl * 3) (.string tg)).1.stored (sl * 3 + 1) (.int .i64 tt)).1.stored (sl * 3 + 2) (.int .i64 (px))).1.alloc (.cells #[.string tg, .int .i64 tt, .int .i64 (px)] 110)
                      have hls := lifeCells_set hks (tg, (tt, px))
                      dsimp only at hls
                      rw [hls] at hr3
                      have HRL := Lib.hid hr3
                      have HBE := Lib.hid ((((HBw.out.setCell (p := ⟨g2, sl * 3, none⟩) hge2 (.string tg)).setCell (p := ⟨g2, sl * 3 + 1, none⟩) hge2 (.int .i64 tt)).setCell (p := ⟨g2, sl * 3 + 2, none⟩) hge2 (.int .i64 (px))).alloc (by simpa using hxc) (.cells #[.string tg, .int .i64 tt, .int .i64 (px)] 110))
                      have HMS := Lib.hid (map_set_same HPP.out (tt, px))
                      clear hap hge2 hks hr3 hls
                      go_wp2_with fail
                      go_roundw
                      case rel => exact ⟨i + 1, dy, ((s ++ [(tg, (sx, px))])).set sl (tg, (tt, px)), (sl + 1), ta1, tc1, some ⟨g2, 0, none⟩, ac1, by omega, by omega, by go_num, rfl, rfl, Lib.hid (by rw [List.length_set]; exact HSL1.out), Lib.hid (by rw [← HPU.out]; exact HNX2.out), Lib.hid (by rw [HMS.out]; exact HRT.out), HRL, HBE⟩
                      case measure => simp [intOf]; omega
              · skip
                have rs0 := (HTw.out).alloc (.cells #[.string tg, .int .i64 0, .int .i64 0] 110)
                have rl0 := (HLw.out).alloc (.cells #[.string tg, .int .i64 0, .int .i64 0] 110)
                have bx0 := (bAw).alloc (.cells #[.string tg, .int .i64 0, .int .i64 0] 110)
                have be0 := (HBw.out).alloc (HBw.out).size (.cells #[.string tg, .int .i64 0, .int .i64 0] 110)
                have tt0 := Box.new (wc) #[.string tg, .int .i64 0, .int .i64 0] 110
                try simp only [World.size_drew, World.size_alloc] at tt0
                (refine wpOp_planS rfl (by rfl) (fun K hK => ?_); go_simp)
                refine hK.out _ _ bx0 ?_
                clear hK K
                have rs1 := (rs0).alloc (.cells #[.string tg] 9)
                have rl1 := (rl0).alloc (.cells #[.string tg] 9)
                have bx1 := (bx0).alloc (.cells #[.string tg] 9)
                have be1 := (be0).alloc (be0).size (.cells #[.string tg] 9)
                have tt1 := Box.new (((wc).alloc (.cells #[.string tg, .int .i64 0, .int .i64 0] 110))) #[.string tg] 9
                try simp only [World.size_alloc] at tt1
                have to1 := (tt0).alloc (.cells #[.string tg] 9)
                (refine PlanS.call rfl (by rfl) (fun K hK => ?_); go_simp)
                refine hK.out _ _ bx1 ?_
                clear hK K
                refine PlanS.call rfl (by rfl) (fun K hK => ?_)
                refine wp_append_own _ (.tmp 67) (.tmp 70) 51 rfl w.heap.size 9 i0 (.string ⟨#[]⟩) 1 16 Tryd.underlying51 hi0 hz0 hz1 hz2 rfl (by decide) (.slice ta sl tc) sl ((s.map (·.1)).map Value.string) rfl ((rs1).drew) ⟨wc.heap.size + 1, 0, none⟩ 1 1 [.string tg] rfl (by rfl) (fun j x hx => by rw [Addr.add_lit, Nat.zero_add, ((tt1).drew).cell]; simpa using hx) (by simp [Value.oneCell']) (by unfold maxLen; omega) (by omega) ((be1).drew).size ?_
                intro v' wv hown hgrow _
                obtain ⟨ta1, tc1, rfl⟩ := row_form hown
                have rl2 := ((rl1).drew).kept hgrow (rows_apart ((rl1).drew) ((rs1).drew) (by decide))
                have bx2 : Box wv wr.heap.size #[.int .i64 dy, .string tg, .int .i64 wh] 70 := (hgrow.block _ ((bx1).drew).lt (box_not ((bx1).drew) ((rs1).drew) (by decide))).trans ((bx1).drew)
                have be2 := ((be1).drew).grown hgrow ((be1).drew).size (row_ge ((rs1).drew))
                have to2 : Box wv _ #[.string tg, .int .i64 0, .int .i64 0] 110 := (hgrow.block _ ((to1).drew).lt (box_not ((to1).drew) ((rs1).drew) (by decide))).trans ((to1).drew)
                have rs2 := hown
                refine hK.out _ _ bx2 ?_
                clear hK K
                refine PlanS.call rfl (by rfl) (fun K hK => ?_)
                refine wp_append_own _ (.tmp 72) (.tmp 76) 107 rfl w.heap.size 110 j0 zl 3 32 Tryd.underlying107 hj0 hzl hj1 hj2 hzs (by decide) (.slice aa sl ac) sl (lifeCells s) rfl (rl2) ⟨wc.heap.size, 0, none⟩ 1 1 [.string tg, .int .i64 0, .int .i64 0] rfl (by rfl) (fun j x hx => by rw [Addr.add_lit, Nat.zero_add, (to2).cell]; simpa using hx) (by simp [Value.oneCell']) (by unfold maxLen; omega) (by omega) (be2).size ?_
                intro v' wc hown hgrow _
                obtain ⟨aa1, ac1, rfl⟩ := row_form hown
                have rs3 := (rs2).kept hgrow (rows_apart (rs2) (rl2) (by decide))
                have bx3 : Box wc wr.heap.size #[.int .i64 dy, .string tg, .int .i64 wh] 70 := (hgrow.block _ (bx2).lt (box_not (bx2) (rl2) (by decide))).trans (bx2)
                have be3 := (be2).grown hgrow (be2).size (row_ge (rl2))
                have rl3 := hown
                refine hK.out _ _ bx3 ?_
                clear hK K
                (refine PlanS.free (v := ?_) rfl (by rfl) (fun W hW => ?_) ?_; rotate_left; (go_simp; with_reducible rfl); simp only [_root_.Go.Act.put, List.setIfInBounds_toArray, List.set_cons_zero, List.set_cons_succ])
                (refine PlanS.free (v := ?_) rfl (by rfl) (fun W hW => ?_) ?_; rotate_left; (go_simp; with_reducible rfl); simp only [_root_.Go.Act.put, List.setIfInBounds_toArray, List.set_cons_zero, List.set_cons_succ])
                refine PlanS.end' ?_
                have HTw : Hid (wc.ownsRow w.heap.size 9 1 (.slice ta1 (sl + 1) tc1) (sl + 1) (((s ++ [(tg, (sx, px))]).map (·.1)).map Value.string)) := Lib.hid (by rw [List.map_append, List.map_append]; exact rs3)
                have HLw : Hid (wc.ownsRow w.heap.size 110 3 (.slice aa1 (sl + 1) ac1) (sl + 1) (lifeCells (s ++ [(tg, (sx, px))]))) := Lib.hid (by rw [lifeCells_snoc, HS0.out, HP0.out]; exact rl3)
                have HBw := Lib.hid (be3)
                have ca0 : wc.cell? ⟨wr.heap.size, 0, none⟩ = some (.int .i64 dy) := (bx3).cell 0
                have ca1 : wc.cell? ⟨wr.heap.size, 1, none⟩ = some (.string tg) := (bx3).cell 1
                have ca2 : wc.cell? ⟨wr.heap.size, 2, none⟩ = some (.int .i64 wh) := (bx3).cell 2
                have hsz : wr.heap.size < wc.heap.size := (bx3).lt
                have hrow := HLw.out
                rcases hrow.2 with ⟨_, h0⟩ | ⟨g2, cap2, cur2, h2, _, hgb, _, _, _, _⟩
                · omega
                simp only [Value.slice.injEq] at h2
                obtain ⟨rfl, _, rfl⟩ := h2
                have hg2l : g2 < wc.heap.size := lt_of_block hgb
                have lc : ∀ j, j < 3 → wc.cell? ⟨g2, sl * 3 + j, none⟩ = ([.string tg, .int .i64 sx, .int .i64 px] : List Value)[j]? := fun j hj => by
                  have h := lifeCells_at HPP.out j hj
                  cases e : ([.string tg, .int .i64 sx, .int .i64 px] : List Value)[j]? with
                  | none => match j, hj with
                    | 0, _ => cases e
                    | 1, _ => cases e
                    | 2, _ => cases e
                  | some v =>
                    rw [e] at h
                    have := hrow.cells (g := g2) rfl (sl * 3 + j) v h
                    rwa [Addr.add_lit, Nat.zero_add] at this
                have c0 : wc.cell? ⟨g2, sl * 3, none⟩ = some (.string tg) := lc 0 (by omega)
                have c1 : wc.cell? ⟨g2, sl * 3 + 1, none⟩ = some (.int .i64 sx) := lc 1 (by omega)
                have c2 : wc.cell? ⟨g2, sl * 3 + 2, none⟩ = some (.int .i64 px) := lc 2 (by omega)
                have q0 : wc.frozen? ⟨g2, sl * 3, none⟩ = false := hrow.frozenAt _
                have q1 : wc.frozen? ⟨g2, sl * 3 + 1, none⟩ = false := hrow.frozenAt _
                have q2 : wc.frozen? ⟨g2, sl * 3 + 2, none⟩ = false := hrow.frozenAt _
                have hgne : g2 ≠ wc.heap.size := by omega
                have hane : wr.heap.size ≠ wc.heap.size := by omega
                have HAP : Hid ((Value.slice ta1 (sl + 1) tc1).ownBlock ≠ some g2) := Lib.hid fun e => by
                  rcases rows_apart HTw.out HLw.out (by decide) with q | q
                  · rw [q] at e; cases e
                  · exact q (e.trans rfl)
                have hws : IntKind.i64.wrap (dy - px) = dy - px := by rw [IntKind.wrap_i64]; omega
                have hxc := (HX.out _ HBw.out).2
                clear hrow hgb lc
                by_cases h2 : wh = 2
                · have hb1 : (wh == 2) = true := by simp [h2]
                  have hb2 : (wh == 1) = false := by simp [h2]
                  by_cases h3 : dy - px < 1000
                  · have hd : decide (dy - px < 1000) = true := by simpa using h3
                    have HFE := Lib.hid (HER.out (by rw [HST.out]; (try dsimp only); rw [HLF.out]; unfold afterM; rw [if_pos ⟨h2, h3⟩]; rfl))
                    clear h2 h3
                    go_wp2_with fail
                    refine bodyPost_ret (v := .tuple #[.slice none 0 0, .slice none 0 0, .int .i64 (i : Int), .int .i64 13]) (by simp [results, Tryd.results37, go_sem]) rfl ⟨.slice none 0 0, .slice none 0 0, ?_⟩
                    rw [HFE.out]
                    exact ⟨rfl, World.ownsRow_nil _ _ _ _, World.ownsRow_nil _ _ _ _, HBw.out.alloc hxc _⟩
                  · have hd : decide (dy - px < 1000) = false := by simpa using h3
                    have HAM : Hid (afterM sx px dy wh = (thenM sx wh).map fun t => (t, px)) := Lib.hid (by unfold afterM; rw [if_neg (by intro q; exact h3 q.2), h2]; rfl)
                    clear h2 h3
                    cases htm : thenM sx wh with
                    | none =>
                      have HTH : Hid (thenI sx wh = -1) := Lib.hid (by unfold thenI; rw [htm]; rfl)
                      have HFE := Lib.hid (HER.out (by rw [HST.out]; (try dsimp only); rw [HLF.out]; (try dsimp only); rw [HAM.out, htm]; rfl))
                      clear htm
                      go_wp2_with fail
                      refine (refThen_any sx wh _ hsx hwh).mono ?_
                      rw [HTH.out]
                      rintro e w' ⟨rfl, rfl⟩
                      go_wp2_with fail
                      refine bodyPost_ret (v := .tuple #[.slice none 0 0, .slice none 0 0, .int .i64 (i : Int), .int .i64 13]) (by simp [results, Tryd.results37, go_sem]) rfl ⟨.slice none 0 0, .slice none 0 0, ?_⟩
                      rw [HFE.out]
                      exact ⟨rfl, World.ownsRow_nil _ _ _ _, World.ownsRow_nil _ _ _ _, (HBw.out.alloc hxc _)⟩
                    | some tt =>
                      have HTH : Hid (thenI sx wh = tt) := Lib.hid (by unfold thenI; rw [htm]; rfl)
                      have htt := then_cases htm
                      have HNX2 := Lib.hid (HNX.out (dy, putL s tg (tt, px)) (by rw [HST.out]; (try dsimp only); rw [HLF.out]; (try dsimp only); rw [HAM.out, htm]; rfl))
                      have htt0 : 0 ≤ tt := by omega
                      clear htm htt
                      go_wp2_with fail
                      refine (refThen_any sx wh _ hsx hwh).mono ?_
                      rw [HTH.out]
                      rintro e w' ⟨rfl, rfl⟩
                      have hap := HAP.out
                      have hge2 := row_ge HLw.out g2 rfl
                      have hks : sl < ((s ++ [(tg, (sx, px))])).length := by rw [HSL1.out]; exact hkl
                      have HRT := Lib.hid ((ownsRow_setCell_other (ownsRow_setCell_other (ownsRow_setCell_other HTw.out (a := ⟨g2, sl * 3, none⟩) hap (.string tg)) (a := ⟨g2, sl * 3 + 1, none⟩) hap (.int .i64 tt)) (a := ⟨g2, sl * 3 + 2, none⟩) hap (.int .i64 (px))).alloc (.cells #[.string tg, .int .i64 tt, .int .i64 (px)] 110))
                      have hr3 := (((HLw.out.stored (sl * 3) (.string tg)).1.stored (sl * 3 + 1) (.int .i64 tt)).1.stored (sl * 3 + 2) (.int .i64 (px))).1.alloc (.cells #[.string tg, .int .i64 tt, .int .i64 (px)] 110)
                      have hls := lifeCells_set hks (tg, (tt, px))
                      dsimp only at hls
                      rw [hls] at hr3
                      have HRL := Lib.hid hr3
                      have HBE := Lib.hid ((((HBw.out.setCell (p := ⟨g2, sl * 3, none⟩) hge2 (.string tg)).setCell (p := ⟨g2, sl * 3 + 1, none⟩) hge2 (.int .i64 tt)).setCell (p := ⟨g2, sl * 3 + 2, none⟩) hge2 (.int .i64 (px))).alloc (by simpa using hxc) (.cells #[.string tg, .int .i64 tt, .int .i64 (px)] 110))
                      have HMS := Lib.hid (map_set_same HPP.out (tt, px))
                      clear hap hge2 hks hr3 hls
                      go_wp2_with fail
                      go_roundw
                      case rel => exact ⟨i + 1, dy, ((s ++ [(tg, (sx, px))])).set sl (tg, (tt, px)), (sl + 1), ta1, tc1, some ⟨g2, 0, none⟩, ac1, by omega, by omega, by go_num, rfl, rfl, Lib.hid (by rw [List.length_set]; exact HSL1.out), Lib.hid (by rw [← HPU.out]; exact HNX2.out), Lib.hid (by rw [HMS.out]; exact HRT.out), HRL, HBE⟩
                      case measure => simp [intOf]; omega
                by_cases h1 : wh = 1
                · have hb1 : (wh == 2) = false := by simpa using h2
                  have hb2 : (wh == 1) = true := by simp [h1]
                  have HAM : Hid (afterM sx px dy wh = (thenM sx wh).map fun t => (t, dy)) := Lib.hid (by unfold afterM; rw [if_neg (by intro q; exact h2 q.1), h1]; rfl)
                  clear h2 h1
                  cases htm : thenM sx wh with
                  | none =>
                    have HTH : Hid (thenI sx wh = -1) := Lib.hid (by unfold thenI; rw [htm]; rfl)
                    have HFE := Lib.hid (HER.out (by rw [HST.out]; (try dsimp only); rw [HLF.out]; (try dsimp only); rw [HAM.out, htm]; rfl))
                    clear htm
                    go_wp2_with fail
                    refine (refThen_any sx wh _ hsx hwh).mono ?_
                    rw [HTH.out]
                    rintro e w' ⟨rfl, rfl⟩
                    go_wp2_with fail
                    refine bodyPost_ret (v := .tuple #[.slice none 0 0, .slice none 0 0, .int .i64 (i : Int), .int .i64 13]) (by simp [results, Tryd.results37, go_sem]) rfl ⟨.slice none 0 0, .slice none 0 0, ?_⟩
                    rw [HFE.out]
                    exact ⟨rfl, World.ownsRow_nil _ _ _ _, World.ownsRow_nil _ _ _ _, (HBw.out.alloc hxc _)⟩
                  | some tt =>
                    have HTH : Hid (thenI sx wh = tt) := Lib.hid (by unfold thenI; rw [htm]; rfl)
                    have htt := then_cases htm
                    have HNX2 := Lib.hid (HNX.out (dy, putL s tg (tt, dy)) (by rw [HST.out]; (try dsimp only); rw [HLF.out]; (try dsimp only); rw [HAM.out, htm]; rfl))
                    have htt0 : 0 ≤ tt := by omega
                    clear htm htt
                    go_wp2_with fail
                    refine (refThen_any sx wh _ hsx hwh).mono ?_
                    rw [HTH.out]
                    rintro e w' ⟨rfl, rfl⟩
                    have hap := HAP.out
                    have hge2 := row_ge HLw.out g2 rfl
                    have hks : sl < ((s ++ [(tg, (sx, px))])).length := by rw [HSL1.out]; exact hkl
                    have HRT := Lib.hid ((ownsRow_setCell_other (ownsRow_setCell_other (ownsRow_setCell_other HTw.out (a := ⟨g2, sl * 3, none⟩) hap (.string tg)) (a := ⟨g2, sl * 3 + 1, none⟩) hap (.int .i64 tt)) (a := ⟨g2, sl * 3 + 2, none⟩) hap (.int .i64 (dy))).alloc (.cells #[.string tg, .int .i64 tt, .int .i64 (dy)] 110))
                    have hr3 := (((HLw.out.stored (sl * 3) (.string tg)).1.stored (sl * 3 + 1) (.int .i64 tt)).1.stored (sl * 3 + 2) (.int .i64 (dy))).1.alloc (.cells #[.string tg, .int .i64 tt, .int .i64 (dy)] 110)
                    have hls := lifeCells_set hks (tg, (tt, dy))
                    dsimp only at hls
                    rw [hls] at hr3
                    have HRL := Lib.hid hr3
                    have HBE := Lib.hid ((((HBw.out.setCell (p := ⟨g2, sl * 3, none⟩) hge2 (.string tg)).setCell (p := ⟨g2, sl * 3 + 1, none⟩) hge2 (.int .i64 tt)).setCell (p := ⟨g2, sl * 3 + 2, none⟩) hge2 (.int .i64 (dy))).alloc (by simpa using hxc) (.cells #[.string tg, .int .i64 tt, .int .i64 (dy)] 110))
                    have HMS := Lib.hid (map_set_same HPP.out (tt, dy))
                    clear hap hge2 hks hr3 hls
                    go_wp2_with fail
                    go_roundw
                    case rel => exact ⟨i + 1, dy, ((s ++ [(tg, (sx, px))])).set sl (tg, (tt, dy)), (sl + 1), ta1, tc1, some ⟨g2, 0, none⟩, ac1, by omega, by omega, by go_num, rfl, rfl, Lib.hid (by rw [List.length_set]; exact HSL1.out), Lib.hid (by rw [← HPU.out]; exact HNX2.out), Lib.hid (by rw [HMS.out]; exact HRT.out), HRL, HBE⟩
                    case measure => simp [intOf]; omega
                · have hb1 : (wh == 2) = false := by simpa using h2
                  have hb2 : (wh == 1) = false := by simpa using h1
                  have HAM : Hid (afterM sx px dy wh = (thenM sx wh).map fun t => (t, px)) := Lib.hid (by unfold afterM; rw [if_neg (by intro q; exact h2 q.1), if_neg h1])
                  clear h2 h1
                  cases htm : thenM sx wh with
                  | none =>
                    have HTH : Hid (thenI sx wh = -1) := Lib.hid (by unfold thenI; rw [htm]; rfl)
                    have HFE := Lib.hid (HER.out (by rw [HST.out]; (try dsimp only); rw [HLF.out]; (try dsimp only); rw [HAM.out, htm]; rfl))
                    clear htm
                    go_wp2_with fail
                    refine (refThen_any sx wh _ hsx hwh).mono ?_
                    rw [HTH.out]
                    rintro e w' ⟨rfl, rfl⟩
                    go_wp2_with fail
                    refine bodyPost_ret (v := .tuple #[.slice none 0 0, .slice none 0 0, .int .i64 (i : Int), .int .i64 13]) (by simp [results, Tryd.results37, go_sem]) rfl ⟨.slice none 0 0, .slice none 0 0, ?_⟩
                    rw [HFE.out]
                    exact ⟨rfl, World.ownsRow_nil _ _ _ _, World.ownsRow_nil _ _ _ _, (HBw.out.alloc hxc _)⟩
                  | some tt =>
                    have HTH : Hid (thenI sx wh = tt) := Lib.hid (by unfold thenI; rw [htm]; rfl)
                    have htt := then_cases htm
                    have HNX2 := Lib.hid (HNX.out (dy, putL s tg (tt, px)) (by rw [HST.out]; (try dsimp only); rw [HLF.out]; (try dsimp only); rw [HAM.out, htm]; rfl))
                    have htt0 : 0 ≤ tt := by omega
                    clear htm htt
                    go_wp2_with fail
                    refine (refThen_any sx wh _ hsx hwh).mono ?_
                    rw [HTH.out]
                    rintro e w' ⟨rfl, rfl⟩
                    have hap := HAP.out
                    have hge2 := row_ge HLw.out g2 rfl
                    have hks : sl < ((s ++ [(tg, (sx, px))])).length := by rw [HSL1.out]; exact hkl
                    have HRT := Lib.hid ((ownsRow_setCell_other (ownsRow_setCell_other (ownsRow_setCell_other HTw.out (a := ⟨g2, sl * 3, none⟩) hap (.string tg)) (a := ⟨g2, sl * 3 + 1, none⟩) hap (.int .i64 tt)) (a := ⟨g2, sl * 3 + 2, none⟩) hap (.int .i64 (px))).alloc (.cells #[.string tg, .int .i64 tt, .int .i64 (px)] 110))
                    have hr3 := (((HLw.out.stored (sl * 3) (.string tg)).1.stored (sl * 3 + 1) (.int .i64 tt)).1.stored (sl * 3 + 2) (.int .i64 (px))).1.alloc (.cells #[.string tg, .int .i64 tt, .int .i64 (px)] 110)
                    have hls := lifeCells_set hks (tg, (tt, px))
                    dsimp only at hls
                    rw [hls] at hr3
                    have HRL := Lib.hid hr3
                    have HBE := Lib.hid ((((HBw.out.setCell (p := ⟨g2, sl * 3, none⟩) hge2 (.string tg)).setCell (p := ⟨g2, sl * 3 + 1, none⟩) hge2 (.int .i64 tt)).setCell (p := ⟨g2, sl * 3 + 2, none⟩) hge2 (.int .i64 (px))).alloc (by simpa using hxc) (.cells #[.string tg, .int .i64 tt, .int .i64 (px)] 110))
                    have HMS := Lib.hid (map_set_same HPP.out (tt, px))
                    clear hap hge2 hks hr3 hls
                    go_wp2_with fail
                    go_roundw
                    case rel => exact ⟨i + 1, dy, ((s ++ [(tg, (sx, px))])).set sl (tg, (tt, px)), (sl + 1), ta1, tc1, some ⟨g2, 0, none⟩, ac1, by omega, by omega, by go_num, rfl, rfl, Lib.hid (by rw [List.length_set]; exact HSL1.out), Lib.hid (by rw [← HPU.out]; exact HNX2.out), Lib.hid (by rw [HMS.out]; exact HRT.out), HRL, HBE⟩
                    case measure => simp [intOf]; omega
            · obtain ⟨k, rfl⟩ : ∃ k : Nat, kk = k := ⟨kk.toNat, by omega⟩
              obtain ⟨g0, hg0, hge⟩ := hpm rfl
              rw [List.getElem?_map] at hg0
              obtain ⟨pp, hpp, rfl⟩ := Option.map_eq_some_iff.1 hg0
              obtain ⟨hlf, hpu⟩ := put_known TD.nodup hpp hge (0, 0)
              have hpu2 := fun l' => (put_known TD.nodup hpp hge l').2
              obtain ⟨g, sx, px⟩ := pp
              dsimp only at hlf hpu2
              have hk1' : ¬ (k : Int) < 0 := by omega
              have hkl : k < sl := by rw [← HSL.out]; exact (List.getElem?_eq_some_iff.1 hpp).1
              have HPP := Lib.hid hpp
              have HLF := Lib.hid hlf
              have HPU := Lib.hid hpu2
              have hsx := life_range TD tg.data.toList
              have hpx := hPL _ (List.mem_of_getElem? hpp)
              rw [hlf] at hsx
              dsimp only at hsx hpx
              have HSL1 : Hid (s.length = sl) := HSL
              have HMP : Hid ((s.map (·.1)) = (s.map (·.1))) := Lib.hid rfl
              clear hpn hpm hk0 hk1 hg0 hpp hlf hpu hpu2 hge
              have hrow := HLw.out
              rcases hrow.2 with ⟨_, h0⟩ | ⟨g2, cap2, cur2, h2, _, hgb, _, _, _, _⟩
              · omega
              simp only [Value.slice.injEq] at h2
              obtain ⟨rfl, _, rfl⟩ := h2
              have hg2l : g2 < wc.heap.size := lt_of_block hgb
              have lc : ∀ j, j < 3 → wc.cell? ⟨g2, k * 3 + j, none⟩ = ([.string g, .int .i64 sx, .int .i64 px] : List Value)[j]? := fun j hj => by
                have h := lifeCells_at HPP.out j hj
                cases e : ([.string g, .int .i64 sx, .int .i64 px] : List Value)[j]? with
                | none => match j, hj with
                  | 0, _ => cases e
                  | 1, _ => cases e
                  | 2, _ => cases e
                | some v =>
                  rw [e] at h
                  have := hrow.cells (g := g2) rfl (k * 3 + j) v h
                  rwa [Addr.add_lit, Nat.zero_add] at this
              have c0 : wc.cell? ⟨g2, k * 3, none⟩ = some (.string g) := lc 0 (by omega)
              have c1 : wc.cell? ⟨g2, k * 3 + 1, none⟩ = some (.int .i64 sx) := lc 1 (by omega)
              have c2 : wc.cell? ⟨g2, k * 3 + 2, none⟩ = some (.int .i64 px) := lc 2 (by omega)
              have q0 : wc.frozen? ⟨g2, k * 3, none⟩ = false := hrow.frozenAt _
              have q1 : wc.frozen? ⟨g2, k * 3 + 1, none⟩ = false := hrow.frozenAt _
              have q2 : wc.frozen? ⟨g2, k * 3 + 2, none⟩ = false := hrow.frozenAt _
              have hgne : g2 ≠ wc.heap.size := by omega
              have hane : wr.heap.size ≠ wc.heap.size := by omega
              have HAP : Hid ((Value.slice ta sl tc).ownBlock ≠ some g2) := Lib.hid fun e => by
                rcases rows_apart HTw.out HLw.out (by decide) with q | q
                · rw [q] at e; cases e
                · exact q (e.trans rfl)
              have hws : IntKind.i64.wrap (dy - px) = dy - px := by rw [IntKind.wrap_i64]; omega
              have hxc := (HX.out _ HBw.out).2
              clear hrow hgb lc
              by_cases h2 : wh = 2
              · have hb1 : (wh == 2) = true := by simp [h2]
                have hb2 : (wh == 1) = false := by simp [h2]
                by_cases h3 : dy - px < 1000
                · have hd : decide (dy - px < 1000) = true := by simpa using h3
                  have HFE := Lib.hid (HER.out (by rw [HST.out]; (try dsimp only); rw [HLF.out]; unfold afterM; rw [if_pos ⟨h2, h3⟩]; rfl))
                  clear h2 h3
                  go_wp2_with fail
                  refine bodyPost_ret (v := .tuple #[.slice none 0 0, .slice none 0 0, .int .i64 (i : Int), .int .i64 13]) (by simp [results, Tryd.results37, go_sem]) rfl ⟨.slice none 0 0, .slice none 0 0, ?_⟩
                  rw [HFE.out]
                  exact ⟨rfl, World.ownsRow_nil _ _ _ _, World.ownsRow_nil _ _ _ _, HBw.out.alloc hxc _⟩
                · have hd : decide (dy - px < 1000) = false := by simpa using h3
                  have HAM : Hid (afterM sx px dy wh = (thenM sx wh).map fun t => (t, px)) := Lib.hid (by unfold afterM; rw [if_neg (by intro q; exact h3 q.2), h2]; rfl)
                  clear h2 h3
                  cases htm : thenM sx wh with
                  | none =>
                    have HTH : Hid (thenI sx wh = -1) := Lib.hid (by unfold thenI; rw [htm]; rfl)
                    have HFE := Lib.hid (HER.out (by rw [HST.out]; (try dsimp only); rw [HLF.out]; (try dsimp only); rw [HAM.out, htm]; rfl))
                    clear htm
                    go_wp2_with fail
                    refine (refThen_any sx wh _ hsx hwh).mono ?_
                    rw [HTH.out]
                    rintro e w' ⟨rfl, rfl⟩
                    go_wp2_with fail
                    refine bodyPost_ret (v := .tuple #[.slice none 0 0, .slice none 0 0, .int .i64 (i : Int), .int .i64 13]) (by simp [results, Tryd.results37, go_sem]) rfl ⟨.slice none 0 0, .slice none 0 0, ?_⟩
                    rw [HFE.out]
                    exact ⟨rfl, World.ownsRow_nil _ _ _ _, World.ownsRow_nil _ _ _ _, (HBw.out.alloc hxc _)⟩
                  | some tt =>
                    have HTH : Hid (thenI sx wh = tt) := Lib.hid (by unfold thenI; rw [htm]; rfl)
                    have htt := then_cases htm
                    have HNX2 := Lib.hid (HNX.out (dy, putL s tg (tt, px)) (by rw [HST.out]; (try dsimp only); rw [HLF.out]; (try dsimp only); rw [HAM.out, htm]; rfl))
                    have htt0 : 0 ≤ tt := by omega
                    clear htm htt
                    go_wp2_with fail
                    refine (refThen_any sx wh _ hsx hwh).mono ?_
                    rw [HTH.out]
                    rintro e w' ⟨rfl, rfl⟩
                    have hap := HAP.out
                    have hge2 := row_ge HLw.out g2 rfl
                    have hks : k < (s).length := by rw [HSL1.out]; exact hkl
                    have HRT := Lib.hid ((ownsRow_setCell_other (ownsRow_setCell_other (ownsRow_setCell_other HTw.out (a := ⟨g2, k * 3, none⟩) hap (.string g)) (a := ⟨g2, k * 3 + 1, none⟩) hap (.int .i64 tt)) (a := ⟨g2, k * 3 + 2, none⟩) hap (.int .i64 (px))).alloc (.cells #[.string g, .int .i64 tt, .int .i64 (px)] 110))
                    have hr3 := (((HLw.out.stored (k * 3) (.string g)).1.stored (k * 3 + 1) (.int .i64 tt)).1.stored (k * 3 + 2) (.int .i64 (px))).1.alloc (.cells #[.string g, .int .i64 tt, .int .i64 (px)] 110)
                    have hls := lifeCells_set hks (g, (tt, px))
                    dsimp only at hls
                    rw [hls] at hr3
                    have HRL := Lib.hid hr3
                    have HBE := Lib.hid ((((HBw.out.setCell (p := ⟨g2, k * 3, none⟩) hge2 (.string g)).setCell (p := ⟨g2, k * 3 + 1, none⟩) hge2 (.int .i64 tt)).setCell (p := ⟨g2, k * 3 + 2, none⟩) hge2 (.int .i64 (px))).alloc (by simpa using hxc) (.cells #[.string g, .int .i64 tt, .int .i64 (px)] 110))
                    have HMS := Lib.hid (map_set_same HPP.out (tt, px))
                    clear hap hge2 hks hr3 hls
                    go_wp2_with fail
                    go_roundw
                    case rel => exact ⟨i + 1, dy, (s).set k (g, (tt, px)), sl, ta, tc, some ⟨g2, 0, none⟩, ac, by omega, by omega, by go_num, rfl, rfl, Lib.hid (by rw [List.length_set]; exact HSL1.out), Lib.hid (by rw [← HPU.out]; exact HNX2.out), Lib.hid (by rw [HMS.out]; exact HRT.out), HRL, HBE⟩
                    case measure => simp [intOf]; omega
              by_cases h1 : wh = 1
              · have hb1 : (wh == 2) = false := by simpa using h2
                have hb2 : (wh == 1) = true := by simp [h1]
                have HAM : Hid (afterM sx px dy wh = (thenM sx wh).map fun t => (t, dy)) := Lib.hid (by unfold afterM; rw [if_neg (by intro q; exact h2 q.1), h1]; rfl)
                clear h2 h1
                cases htm : thenM sx wh with
                | none =>
                  have HTH : Hid (thenI sx wh = -1) := Lib.hid (by unfold thenI; rw [htm]; rfl)
                  have HFE := Lib.hid (HER.out (by rw [HST.out]; (try dsimp only); rw [HLF.out]; (try dsimp only); rw [HAM.out, htm]; rfl))
                  clear htm
                  go_wp2_with fail
                  refine (refThen_any sx wh _ hsx hwh).mono ?_
                  rw [HTH.out]
                  rintro e w' ⟨rfl, rfl⟩
                  go_wp2_with fail
                  refine bodyPost_ret (v := .tuple #[.slice none 0 0, .slice none 0 0, .int .i64 (i : Int), .int .i64 13]) (by simp [results, Tryd.results37, go_sem]) rfl ⟨.slice none 0 0, .slice none 0 0, ?_⟩
                  rw [HFE.out]
                  exact ⟨rfl, World.ownsRow_nil _ _ _ _, World.ownsRow_nil _ _ _ _, (HBw.out.alloc hxc _)⟩
                | some tt =>
                  have HTH : Hid (thenI sx wh = tt) := Lib.hid (by unfold thenI; rw [htm]; rfl)
                  have htt := then_cases htm
                  have HNX2 := Lib.hid (HNX.out (dy, putL s tg (tt, dy)) (by rw [HST.out]; (try dsimp only); rw [HLF.out]; (try dsimp only); rw [HAM.out, htm]; rfl))
                  have htt0 : 0 ≤ tt := by omega
                  clear htm htt
                  go_wp2_with fail
                  refine (refThen_any sx wh _ hsx hwh).mono ?_
                  rw [HTH.out]
                  rintro e w' ⟨rfl, rfl⟩
                  have hap := HAP.out
                  have hge2 := row_ge HLw.out g2 rfl
                  have hks : k < (s).length := by rw [HSL1.out]; exact hkl
                  have HRT := Lib.hid ((ownsRow_setCell_other (ownsRow_setCell_other (ownsRow_setCell_other HTw.out (a := ⟨g2, k * 3, none⟩) hap (.string g)) (a := ⟨g2, k * 3 + 1, none⟩) hap (.int .i64 tt)) (a := ⟨g2, k * 3 + 2, none⟩) hap (.int .i64 (dy))).alloc (.cells #[.string g, .int .i64 tt, .int .i64 (dy)] 110))
                  have hr3 := (((HLw.out.stored (k * 3) (.string g)).1.stored (k * 3 + 1) (.int .i64 tt)).1.stored (k * 3 + 2) (.int .i64 (dy))).1.alloc (.cells #[.string g, .int .i64 tt, .int .i64 (dy)] 110)
                  have hls := lifeCells_set hks (g, (tt, dy))
                  dsimp only at hls
                  rw [hls] at hr3
                  have HRL := Lib.hid hr3
                  have HBE := Lib.hid ((((HBw.out.setCell (p := ⟨g2, k * 3, none⟩) hge2 (.string g)).setCell (p := ⟨g2, k * 3 + 1, none⟩) hge2 (.int .i64 tt)).setCell (p := ⟨g2, k * 3 + 2, none⟩) hge2 (.int .i64 (dy))).alloc (by simpa using hxc) (.cells #[.string g, .int .i64 tt, .int .i64 (dy)] 110))
                  have HMS := Lib.hid (map_set_same HPP.out (tt, dy))
                  clear hap hge2 hks hr3 hls
                  go_wp2_with fail
                  go_roundw
                  case rel => exact ⟨i + 1, dy, (s).set k (g, (tt, dy)), sl, ta, tc, some ⟨g2, 0, none⟩, ac, by omega, by omega, by go_num, rfl, rfl, Lib.hid (by rw [List.length_set]; exact HSL1.out), Lib.hid (by rw [← HPU.out]; exact HNX2.out), Lib.hid (by rw [HMS.out]; exact HRT.out), HRL, HBE⟩
                  case measure => simp [intOf]; omega
              · have hb1 : (wh == 2) = false := by simpa using h2
                have hb2 : (wh == 1) = false := by simpa using h1
                have HAM : Hid (afterM sx px dy wh = (thenM sx wh).map fun t => (t, px)) := Lib.hid (by unfold afterM; rw [if_neg (by intro q; exact h2 q.1), if_neg h1])
                clear h2 h1
                cases htm : thenM sx wh with
                | none =>
                  have HTH : Hid (thenI sx wh = -1) := Lib.hid (by unfold thenI; rw [htm]; rfl)
                  have HFE := Lib.hid (HER.out (by rw [HST.out]; (try dsimp only); rw [HLF.out]; (try dsimp only); rw [HAM.out, htm]; rfl))
                  clear htm
                  go_wp2_with fail
                  refine (refThen_any sx wh _ hsx hwh).mono ?_
                  rw [HTH.out]
                  rintro e w' ⟨rfl, rfl⟩
                  go_wp2_with fail
                  refine bodyPost_ret (v := .tuple #[.slice none 0 0, .slice none 0 0, .int .i64 (i : Int), .int .i64 13]) (by simp [results, Tryd.results37, go_sem]) rfl ⟨.slice none 0 0, .slice none 0 0, ?_⟩
                  rw [HFE.out]
                  exact ⟨rfl, World.ownsRow_nil _ _ _ _, World.ownsRow_nil _ _ _ _, (HBw.out.alloc hxc _)⟩
                | some tt =>
                  have HTH : Hid (thenI sx wh = tt) := Lib.hid (by unfold thenI; rw [htm]; rfl)
                  have htt := then_cases htm
                  have HNX2 := Lib.hid (HNX.out (dy, putL s tg (tt, px)) (by rw [HST.out]; (try dsimp only); rw [HLF.out]; (try dsimp only); rw [HAM.out, htm]; rfl))
                  have htt0 : 0 ≤ tt := by omega
                  clear htm htt
                  go_wp2_with fail
                  refine (refThen_any sx wh _ hsx hwh).mono ?_
                  rw [HTH.out]
                  rintro e w' ⟨rfl, rfl⟩
                  have hap := HAP.out
                  have hge2 := row_ge HLw.out g2 rfl
                  have hks : k < (s).length := by rw [HSL1.out]; exact hkl
                  have HRT := Lib.hid ((ownsRow_setCell_other (ownsRow_setCell_other (ownsRow_setCell_other HTw.out (a := ⟨g2, k * 3, none⟩) hap (.string g)) (a := ⟨g2, k * 3 + 1, none⟩) hap (.int .i64 tt)) (a := ⟨g2, k * 3 + 2, none⟩) hap (.int .i64 (px))).alloc (.cells #[.string g, .int .i64 tt, .int .i64 (px)] 110))
                  have hr3 := (((HLw.out.stored (k * 3) (.string g)).1.stored (k * 3 + 1) (.int .i64 tt)).1.stored (k * 3 + 2) (.int .i64 (px))).1.alloc (.cells #[.string g, .int .i64 tt, .int .i64 (px)] 110)
                  have hls := lifeCells_set hks (g, (tt, px))
                  dsimp only at hls
                  rw [hls] at hr3
                  have HRL := Lib.hid hr3
                  have HBE := Lib.hid ((((HBw.out.setCell (p := ⟨g2, k * 3, none⟩) hge2 (.string g)).setCell (p := ⟨g2, k * 3 + 1, none⟩) hge2 (.int .i64 tt)).setCell (p := ⟨g2, k * 3 + 2, none⟩) hge2 (.int .i64 (px))).alloc (by simpa using hxc) (.cells #[.string g, .int .i64 tt, .int .i64 (px)] 110))
                  have HMS := Lib.hid (map_set_same HPP.out (tt, px))
                  clear hap hge2 hks hr3 hls
                  go_wp2_with fail
                  go_roundw
                  case rel => exact ⟨i + 1, dy, (s).set k (g, (tt, px)), sl, ta, tc, some ⟨g2, 0, none⟩, ac, by omega, by omega, by go_num, rfl, rfl, Lib.hid (by rw [List.length_set]; exact HSL1.out), Lib.hid (by rw [← HPU.out]; exact HNX2.out), Lib.hid (by rw [HMS.out]; exact HRT.out), HRL, HBE⟩
                  case measure => simp [intOf]; omega
      · have hdb : decide (dy < today) = true := by rw [decide_eq_true_iff]; omega
        have HFE := Lib.hid (HER.out (step_no1 (a := ⟨dy, tg, wh⟩) (st := (today, s)) (by intro h; exact hod h.1)))
        clear hod
        go_wp2_with fail
        refine region_seq (fun W => ∀ p, W.cell? p = (wr.alloc (.cells #[.int .i64 dy, .string tg, .int .i64 wh] 70)).cell? p) [(0, true), (1, true), (2, false), (3, true), (4, true), (5, true), (6, true), (7, true), (8, true), (9, true), (10, true), (11, true), (12, true), (13, true), (14, true), (15, true), (16, true), (17, true), (18, true), (19, true), (20, true), (21, true), (22, false), (23, true), (24, true), (25, true), (26, true), (27, true), (28, false), (29, true), (30, true)]
          (by kernel_rfl) (by kernel_rfl) (by kernel_rfl) (by simp) (fun _ _ _ _ h => h) (fun _ => rfl) ?_
        (refine SeqW.take (v := ?_) rfl (by rfl) (fun W hW => ?_) ?_; rotate_left; (go_simp; with_reducible rfl); simp only [_root_.Go.Act.put, List.setIfInBounds_toArray, List.set_cons_zero, List.set_cons_succ])
        (refine SeqW.take (v := ?_) rfl (by rfl) (fun W hW => ?_) ?_; rotate_left; (have l0 := (hW _).trans a0; have l1 := (hW _).trans a1; have l2 := (hW _).trans a2; have l3 := (hW _).trans p0; go_simp; with_reducible rfl); simp only [_root_.Go.Act.put, List.setIfInBounds_toArray, List.set_cons_zero, List.set_cons_succ])
        (refine SeqW.call rfl (by rfl) (fun K hK => ?_); go_simp)
        refine (refIn_any _ _ _ _).mono ?_
        rw [HI1.out]
        rintro e w' ⟨rfl, rfl⟩
        go_simp
        refine hK.out _ _ (fun _ => rfl) ?_
        clear hK K
        (refine SeqW.take (v := ?_) rfl (by rfl) (fun W hW => ?_) ?_; rotate_left; (go_simp; with_reducible rfl); simp only [_root_.Go.Act.put, List.setIfInBounds_toArray, List.set_cons_zero, List.set_cons_succ])
        (refine SeqW.take (v := ?_) rfl (by rfl) (fun W hW => ?_) ?_; rotate_left; (go_simp; with_reducible rfl); simp only [_root_.Go.Act.put, List.setIfInBounds_toArray, List.set_cons_zero, List.set_cons_succ])
        (refine SeqW.take (v := ?_) rfl (by rfl) (fun W hW => ?_) ?_; rotate_left; (go_simp; with_reducible rfl); simp only [_root_.Go.Act.put, List.setIfInBounds_toArray, List.set_cons_zero, List.set_cons_succ])
        (refine SeqW.take (v := ?_) rfl (by rfl) (fun W hW => ?_) ?_; rotate_left; (go_simp; with_reducible rfl); simp only [_root_.Go.Act.put, List.setIfInBounds_toArray, List.set_cons_zero, List.set_cons_succ])
        (refine SeqW.take (v := ?_) rfl (by rfl) (fun W hW => ?_) ?_; rotate_left; (go_simp; with_reducible rfl); simp only [_root_.Go.Act.put, List.setIfInBounds_toArray, List.set_cons_zero, List.set_cons_succ])
        (refine SeqW.take (v := ?_) rfl (by rfl) (fun W hW => ?_) ?_; rotate_left; (go_simp; with_reducible rfl); simp only [_root_.Go.Act.put, List.setIfInBounds_toArray, List.set_cons_zero, List.set_cons_succ])
        (refine SeqW.take (v := ?_) rfl (by rfl) (fun W hW => ?_) ?_; rotate_left; (go_simp; with_reducible rfl); simp only [_root_.Go.Act.put, List.setIfInBounds_toArray, List.set_cons_zero, List.set_cons_succ])
        (refine SeqW.take (v := ?_) rfl (by rfl) (fun W hW => ?_) ?_; rotate_left; (go_simp; with_reducible rfl); simp only [_root_.Go.Act.put, List.setIfInBounds_toArray, List.set_cons_zero, List.set_cons_succ])
        (refine SeqW.take (v := ?_) rfl (by rfl) (fun W hW => ?_) ?_; rotate_left; (go_simp; with_reducible rfl); simp only [_root_.Go.Act.put, List.setIfInBounds_toArray, List.set_cons_zero, List.set_cons_succ])
        (refine SeqW.take (v := ?_) rfl (by rfl) (fun W hW => ?_) ?_; rotate_left; (go_simp; with_reducible rfl); simp only [_root_.Go.Act.put, List.setIfInBounds_toArray, List.set_cons_zero, List.set_cons_succ])
        (refine SeqW.take (v := ?_) rfl (by rfl) (fun W hW => ?_) ?_; rotate_left; (have l0 := (hW _).trans a0; have l1 := (hW _).trans a1; have l2 := (hW _).trans a2; have l3 := (hW _).trans p0; go_simp; with_reducible rfl); simp only [_root_.Go.Act.put, List.setIfInBounds_toArray, List.set_cons_zero, List.set_cons_succ])
        (refine SeqW.take (v := ?_) rfl (by rfl) (fun W hW => ?_) ?_; rotate_left; (go_simp; with_reducible rfl); simp only [_root_.Go.Act.put, List.setIfInBounds_toArray, List.set_cons_zero, List.set_cons_succ])
        (refine SeqW.take (v := ?_) rfl (by rfl) (fun W hW => ?_) ?_; rotate_left; (have l0 := (hW _).trans a0; have l1 := (hW _).trans a1; have l2 := (hW _).trans a2; have l3 := (hW _).trans p0; go_simp; with_reducible rfl); simp only [_root_.Go.Act.put, List.setIfInBounds_toArray, List.set_cons_zero, List.set_cons_succ])
        (refine SeqW.take (v := ?_) rfl (by rfl) (fun W hW => ?_) ?_; rotate_left; (go_simp; with_reducible rfl); simp only [_root_.Go.Act.put, List.setIfInBounds_toArray, List.set_cons_zero, List.set_cons_succ])
        (refine SeqW.take (v := ?_) rfl (by rfl) (fun W hW => ?_) ?_; rotate_left; (go_simp; with_reducible rfl); simp only [_root_.Go.Act.put, List.setIfInBounds_toArray, List.set_cons_zero, List.set_cons_succ])
        (refine SeqW.take (v := ?_) rfl (by rfl) (fun W hW => ?_) ?_; rotate_left; (go_simp; with_reducible rfl); simp only [_root_.Go.Act.put, List.setIfInBounds_toArray, List.set_cons_zero, List.set_cons_succ])
        (refine SeqW.take (v := ?_) rfl (by rfl) (fun W hW => ?_) ?_; rotate_left; (go_simp; with_reducible rfl); simp only [_root_.Go.Act.put, List.setIfInBounds_toArray, List.set_cons_zero, List.set_cons_succ])
        (refine SeqW.skip rfl (by rfl) ?_; simp only [_root_.Go.Act.put, List.setIfInBounds_toArray, List.set_cons_zero, List.set_cons_succ])
        (refine SeqW.skip rfl (by rfl) ?_; simp only [_root_.Go.Act.put, List.setIfInBounds_toArray, List.set_cons_zero, List.set_cons_succ])
        (refine SeqW.callskip rfl (by rfl) (fun _ => rfl) ?_; simp only [_root_.Go.Act.put, List.setIfInBounds_toArray, List.set_cons_zero, List.set_cons_succ])
        (refine SeqW.skip rfl (by rfl) ?_; simp only [_root_.Go.Act.put, List.setIfInBounds_toArray, List.set_cons_zero, List.set_cons_succ])
        (refine SeqW.take (v := ?_) rfl (by rfl) (fun W hW => ?_) ?_; rotate_left; (go_simp; with_reducible rfl); simp only [_root_.Go.Act.put, List.setIfInBounds_toArray, List.set_cons_zero, List.set_cons_succ])
        (refine SeqW.take (v := ?_) rfl (by rfl) (fun W hW => ?_) ?_; rotate_left; (go_simp; with_reducible rfl); simp only [_root_.Go.Act.put, List.setIfInBounds_toArray, List.set_cons_zero, List.set_cons_succ])
        (refine SeqW.skip rfl (by rfl) ?_; simp only [_root_.Go.Act.put, List.setIfInBounds_toArray, List.set_cons_zero, List.set_cons_succ])
        (refine SeqW.skip rfl (by rfl) ?_; simp only [_root_.Go.Act.put, List.setIfInBounds_toArray, List.set_cons_zero, List.set_cons_succ])
        (refine SeqW.callskip rfl (by rfl) (fun _ => rfl) ?_; simp only [_root_.Go.Act.put, List.setIfInBounds_toArray, List.set_cons_zero, List.set_cons_succ])
        (refine SeqW.skip rfl (by rfl) ?_; simp only [_root_.Go.Act.put, List.setIfInBounds_toArray, List.set_cons_zero, List.set_cons_succ])
        (refine SeqW.take (v := ?_) rfl (by rfl) (fun W hW => ?_) ?_; rotate_left; (go_simp; with_reducible rfl); simp only [_root_.Go.Act.put, List.setIfInBounds_toArray, List.set_cons_zero, List.set_cons_succ])
        refine SeqW.done ?_
        go_wp2_with fail
        refine bodyPost_ret (v := .tuple #[.slice none 0 0, .slice none 0 0, .int .i64 (i : Int), .int .i64 13]) (by simp [results, Tryd.results37, go_sem]) rfl ⟨.slice none 0 0, .slice none 0 0, ?_⟩
        rw [HFE.out]
        exact ⟨rfl, World.ownsRow_nil _ _ _ _, World.ownsRow_nil _ _ _ _, hB1.drew⟩
end Go.Proofs.YtcjmfacdjdegkaaDoor
