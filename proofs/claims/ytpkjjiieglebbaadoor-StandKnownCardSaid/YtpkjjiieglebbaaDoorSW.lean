/- The walk of the search of package stand's worthiest. -/
import Derived.Test.YtpkjjiieglebbaaDoorSR
import Derived.Deep.LoopGhost
import Derived.WalkMore
namespace Go.Proofs.YtpkjjiieglebbaaDoor
open Go Go.RowKit
theorem nv_one (xs : List Nat) : ∀ u ∈ xs.map (fun i : Nat => Value.int .i64 (i : Int)), u.oneCell' = true := fun u hu => by
  obtain ⟨x, _, rfl⟩ := List.mem_map.1 hu
  rfl
theorem row_shape {W : World} {B : Nat} {e : TypeId} {v : Value} {k : Nat} {xs : List Value} (h : W.ownsRow B e 1 v k xs) : ∃ a c, v = .slice a k c := by
  rcases h.2 with ⟨rfl, rfl⟩ | ⟨g, cap, cur, rfl, _⟩
  · exact ⟨none, 0, rfl⟩
  · exact ⟨_, _, rfl⟩
theorem hitB_eq {ts : List Tree} {gap : Int} {k i : Nat} {t u : Tree} (h1 : ts[k]? = some t) (h2 : ts[i]? = some u) : hitB ts gap k i = within t.x t.y u.x u.y gap := by simp [hitB, h1, h2]
theorem clash_step {ts : List Tree} {gap : Int} {xs : List Nat} {i j k : Nat} (hk : xs[j]? = some k) (h : clashG ts gap (xs.take j) i = false) (hn : hitB ts gap k i = false) : clashG ts gap (xs.take (j + 1)) i = false := by
  unfold clashG at *
  rw [List.take_add_one, hk, List.any_append, h]
  simp [hn]
theorem clash_hit {ts : List Tree} {gap : Int} {xs : List Nat} {i j k : Nat} (hk : xs[j]? = some k) (hn : hitB ts gap k i = true) : clashG ts gap xs i = true :=
  List.any_eq_true.2 ⟨k, List.mem_of_getElem? hk, hn⟩
theorem row_block {W : World} {B : Nat} {e : TypeId} {a : Option Addr} {n c k : Nat} {xs : List Value} (h : W.ownsRow B e 1 (.slice a n c) k xs) (hk : 0 < k) : ∃ g, a = some ⟨g, 0, none⟩ := by
  rcases h.2 with ⟨_, rfl⟩ | ⟨g, cap, cur, hv, _⟩
  · omega
  · cases hv; exact ⟨g, rfl⟩
theorem fromL_mono (ts : List Tree) (h : ∀ t ∈ ts, 0 ≤ t.gl ∧ t.gl ≤ 4000) {a b : Nat} (hab : a ≤ b) : fromL ts b ≤ fromL ts a := by
  induction hab with
  | refl => exact Int.le_refl _
  | @step m _ ih =>
    refine Int.le_trans ?_ ih
    rcases e : ts[m]? with _ | t
    · have : ts.length ≤ m := List.getElem?_eq_none_iff.1 e
      simp [fromL, List.drop_eq_nil_of_le this, List.drop_eq_nil_of_le (Nat.le_succ_of_le this)]
    · have := (h t (List.mem_of_getElem? e)).1
      rw [fromL_at e]
      show fromL ts (m + 1) ≤ _
      omega
structure Best (w0 : World) (bb B0 Bm Bb : Nat) (W W' : World) (vb v : Value) (xs : List Nat) (st : List Nat × Int) : Prop where
  get : ∃ vb', At w0 bb B0 Bm Bb W' vb' v xs st.1 st.2 ∧ Turns Bm Bb W W' vb vb' v
set_option maxRecDepth 100000 in
set_option maxHeartbeats 4000000 in
theorem search_any {w0 : World} {bb B0 Bm Bb Bt Bf Bg Bs b off c F fc : Nat} {a : Option Addr} {ts : List Tree} {gap : Int} {cs : Array Value} (hF : Fix w0 B0 Bm Bb Bt Bf Bg Bs b off c F fc a ts gap cs)
    (hok : ∀ t ∈ ts, okTree t) (hgl : ∀ t ∈ ts, 0 ≤ t.gl ∧ t.gl ≤ 4000) (h14 : ts.length ≤ 14) (hgap : 0 ≤ gap ∧ gap ≤ 100000) (hb1 : bb ≤ Bm) (hb2 : bb ≤ Bb) (hb3 : bb ≤ B0) :
    ∀ (m : Nat) (v vb : Value) (xs best : List Nat) (worth most : Int) (next : Nat) (W : World), next + m = ts.length → At w0 bb B0 Bm Bb W vb v xs best most → (∀ k ∈ xs, k < next) → xs.length ≤ next → 0 ≤ worth → worth + fromL ts next ≤ 56000 →
    Calls Tryd.prog 96 #[v, .int .i64 worth, .int .i64 next, .pointer (some ⟨Bm, 0, none⟩), .pointer (some ⟨Bb, 0, none⟩), .pointer (some ⟨Bt, 0, none⟩), .pointer (some ⟨Bf, 0, none⟩), .pointer (some ⟨Bg, 0, none⟩), .pointer (some ⟨Bs, 0, none⟩)] W fun e W' =>
      e = .returned (.tuple #[]) ∧ Best w0 bb B0 Bm Bb W W' vb v xs (goS ts gap m xs worth next (better xs worth (best, most))) := by
  intro m
  induction m using Nat.strongRecOn with
  | _ m ih =>
  intro v vb xs best worth most next W hnm hA hxs hlen hw0 hw1
  have HIH := Lib.hid ih
  obtain ⟨va, vc, rfl⟩ := row_shape hA.bset
  obtain ⟨vba, vbc, rfl⟩ := row_shape hA.brow
  have HF := Lib.hid hF
  have HA := Lib.hid hA
  have HOK := Lib.hid hok
  have HGL := Lib.hid hgl
  have HXS := Lib.hid hxs
  have hlt := hF.mb
  obtain ⟨hmb1, hmb2, hmb3⟩ := hlt
  have cm := hA.bmost.cell
  have cmf := hA.bmost.frozen
  have cb := hA.bbest.cell
  have cbf := hA.bbest.frozen
  obtain ⟨fin, hfin⟩ : ∃ fin, fin = goS ts gap m xs worth next (better xs worth (best, most)) := ⟨_, rfl⟩
  rw [← hfin]
  clear ih hF hA hok hgl hxs
  rcases Decidable.em (most < worth) with hw | hw
  focus
    have HFIN : Hid (fin = goS ts gap m xs worth next (xs, worth)) := Lib.hid (by rw [hfin, better, if_pos hw])
    clear hfin
    go_enter Tryd.func96, Tryd.ntmps96
    go_wp2
    go_step3
    go_wp2_with (go_at_call 97; refine (clone_any B0 _ xs.length _ _ HA.out.bset (by omega) (nv_one xs)).mono ?_; rintro e W1 ⟨v', rfl, hr1, hbl1⟩; obtain ⟨va', vc', rfl⟩ := row_shape hr1; have HB1 := Lib.hid hbl1; have HR1 := Lib.hid hr1; have d0 : W1.cell? ⟨Bm, 0, none⟩ = some (.int .i64 most) := (hbl1.cell HA.out.bmost.lt).trans HA.out.bmost.cell; have d1 : W1.frozen? ⟨Bm, 0, none⟩ = false := (World.frozen?_of_block (hbl1.block _ HA.out.bmost.lt)).trans HA.out.bmost.frozen; have d2 : W1.cell? ⟨Bb, 0, none⟩ = some (.slice vba best.length vbc) := (hbl1.cell HA.out.bbest.lt).trans HA.out.bbest.cell; have d3 : W1.frozen? ⟨Bb, 0, none⟩ = false := (World.frozen?_of_block (hbl1.block _ HA.out.bbest.lt)).trans HA.out.bbest.frozen; clear hbl1 hr1)
    have hA1 := HA.out.new (worth := worth) HB1.out HR1.out hmb2 hmb3 hb3 hb1 hb2 hmb1
    have hT1 := (Turns.refl Bm Bb W (.slice vba best.length vbc) (.slice va xs.length vc)).new (worth := worth) HB1.out HR1.out
    generalize ((W1.setCell ⟨Bb, 0, none⟩ (.slice va' xs.length vc')).setCell ⟨Bm, 0, none⟩ (.int .i64 worth)) = W2 at hA1 hT1 ⊢
    have HS : Hid (∃ (b1 : List Nat) (m1 : Int) (vb1 : Value), At w0 bb B0 Bm Bb W2 vb1 (.slice va xs.length vc) xs b1 m1 ∧ Turns Bm Bb W W2 (.slice vba best.length vbc) vb1 (.slice va xs.length vc) ∧ fin = goS ts gap m xs worth next (b1, m1)) :=
      Lib.hid ⟨_, _, _, hA1, hT1, HFIN.out⟩
    clear hA1 hT1 d0 d1 d2 d3 HB1 HR1
  rotate_left
  focus
    have HFIN : Hid (fin = goS ts gap m xs worth next (best, most)) := Lib.hid (by rw [hfin, better, if_neg hw])
    clear hfin
    have HS : Hid (∃ (b1 : List Nat) (m1 : Int) (vb1 : Value), At w0 bb B0 Bm Bb W vb1 (.slice va xs.length vc) xs b1 m1 ∧ Turns Bm Bb W W (.slice vba best.length vbc) vb1 (.slice va xs.length vc) ∧ fin = goS ts gap m xs worth next (b1, m1)) :=
      Lib.hid ⟨_, _, _, HA.out, Turns.refl _ _ _ _ _, HFIN.out⟩
    go_enter Tryd.func96, Tryd.ntmps96
    go_wp2
    go_step3
    go_wp2_with fail
  all_goals
    go_step3
    go_wp2_with fail
    clear cm cmf cb cbf HFIN HA hw
    go_loopg [12] m (fun g iv wr => ∃ (i : Nat) (va2 : Option Addr) (vc2 : Nat) (b2 : List Nat) (m2 : Int), i + g = ts.length ∧ iv = .int .i64 i ∧ next ≤ i ∧ Hid (At w0 bb B0 Bm Bb wr (.slice va2 b2.length vc2) (.slice va xs.length vc) xs b2 m2) ∧ Hid (Turns Bm Bb W wr (.slice vba best.length vbc) (.slice va2 b2.length vc2) (.slice va xs.length vc)) ∧ Hid (fin = goS ts gap g xs worth i (b2, m2)))
    case atStart =>
      obtain ⟨b1, m1, vb1, hA1, hT1, hf1⟩ := HS.out
      obtain ⟨a1, c1, rfl⟩ := row_shape hA1.brow
      exact ⟨next, a1, c1, b1, m1, hnm, rfl, Nat.le_refl _, Lib.hid hA1, Lib.hid hT1, Lib.hid hf1⟩
    case round =>
      obtain ⟨i, va2, vc2, b2, m2, hig, rfl, hni, HA2, HT2, HF2⟩ := hrel
      clear HS
      have tb : wr.cell? ⟨Bt, 0, none⟩ = some (.slice a ts.length c) := (boxed_of HF.out.tr (HA2.out.same _ HF.out.lt.1 HF.out.neM.1 HF.out.neB.1)).cell
      cases gk with
      | zero =>
        obtain rfl : i = ts.length := by omega
        go_wp2_with fail
        try rw [Exit.noGoto_normal]
        go_end0
        exact ⟨rfl, ⟨_, by rw [HF2.out]; exact HA2.out, HT2.out⟩⟩
      | succ g =>
        have hin : i < ts.length := by omega
        obtain rfl : a = some ⟨b, off, none⟩ := HF.out.at_ (by omega)
        have HA3 := HA2
        have HG : Hid (∀ W' : World, (∀ x : Nat, W'.heap[x]? = wr.heap[x]?) → W'.cell? ⟨Bt, 0, none⟩ = some (.slice (some ⟨b, off, none⟩) ts.length c) ∧ W'.cell? ⟨Bf, 0, none⟩ = some (.slice (some ⟨F, 0, none⟩) ts.length fc) ∧ W'.cell? ⟨F, i, none⟩ = some (.int .i64 (fromL ts i)) ∧ W'.cell? ⟨Bm, 0, none⟩ = some (.int .i64 m2)) := Lib.hid fun W' h => by
          have hs := HA2.out.same
          obtain ⟨l1, l2, l3, l4, l5, l6⟩ := HF.out.lt
          obtain ⟨n1, n2, n3, n4, n5, n6⟩ := HF.out.neM
          obtain ⟨o1, o2, o3, o4, o5, o6⟩ := HF.out.neB
          refine ⟨(boxed_of HF.out.tr ((h _).trans (hs _ l1 n1 o1))).cell, (boxed_of HF.out.fr ((h _).trans (hs _ l2 n2 o2))).cell, ?_, (boxed_of HA2.out.bmost (h _)).cell⟩
          have hbx : Box W' F cs 3 := ((h _).trans (hs _ l5 n5 o5)).trans HF.out.row
          rw [hbx.cell]
          exact HF.out.from_ i hin
        have hfr := fromL_le ts i HGL.out h14
        obtain ⟨fi, hfi⟩ : ∃ fi, fi = fromL ts i := ⟨_, rfl⟩
        rw [← hfi] at HG hfr
        have HFI := Lib.hid hfi
        obtain ⟨hfr1, hfr2⟩ := hfr
        clear hfi
        have hwB : worth ≤ 56000 := by have := (fromL_le ts next HGL.out h14).1; omega
        have hwr : IntKind.i64.wrap (worth + fi) = worth + fi := by rw [IntKind.wrap_i64]; omega
        go_wp2_with fail
        refine region_seq (fun W' : World => ∀ x : Nat, W'.heap[x]? = wr.heap[x]?) [(0, true), (1, true), (2, true), (3, true), (4, true), (5, true), (6, true), (7, true)]
          (by kernel_rfl) (by kernel_rfl) (by kernel_rfl) (by simp) (fun _ _ _ _ h => h) (fun _ => rfl) ?_
        iterate 8 (refine SeqW.take (v := ?_) rfl (by rfl) (fun W' hW => ?_) ?_; rotate_left; (obtain ⟨g0, g1, g2, g3⟩ := HG.out W' hW; clear hW; go_simp; with_reducible rfl); simp only [Act.put, List.setIfInBounds_toArray, List.set_cons_zero, List.set_cons_succ])
        refine SeqW.done ?_
        have HA4 := Lib.hid (HA2.out.below (Below.refl _ wr).drew hmb2 hmb3 hb3)
        have HT4 := Lib.hid (HT2.out.below (Below.refl _ wr).drew)
        have tb4 : wr.drew.cell? ⟨Bt, 0, none⟩ = some (.slice (some ⟨b, off, none⟩) ts.length c) := tb
        clear tb HA2 HT2 HA3 HG
        generalize wr.drew = w4 at HA4 HT4 tb4 ⊢
        rcases hbr : decide (worth + fi ≤ m2) with _ | _
        rotate_left
        focus
          have HF3 : Hid (fin = (b2, m2)) := Lib.hid (by
            rw [HF2.out, goS, if_pos]
            dsimp only
            rw [← HFI.out]
            simpa using hbr)
          clear HF2
          go_wp2_with fail
          try rw [Exit.noGoto_normal]
          go_end0
          exact ⟨rfl, ⟨_, by rw [HF3.out]; exact HA4.out, HT4.out⟩⟩
        have hbr' : ¬ worth + fi ≤ m2 := by simpa using hbr
        go_wp2_with fail
        clear tb4
        obtain ⟨ti, hti⟩ : ∃ t, ts[i]? = some t := ⟨_, List.getElem?_eq_getElem hin⟩
        have HTI := Lib.hid hti
        clear hti
        go_loopg [38] xs.length (fun h jv wy => ∃ j : Nat, j + h = xs.length ∧ jv = .int .i64 j ∧ Below w4.heap.size w4 wy ∧ Hid (clashG ts gap (xs.take j) i = false))
        case atStart => exact ⟨0, by omega, rfl, Below.refl _ _, Lib.hid (by simp [clashG])⟩
        case round =>
          obtain ⟨j, hjh, rfl, hBy, HCJ⟩ := hrel
          have HAy := Lib.hid (HA4.out.below hBy hmb2 hmb3 hb3)
          have HTy := Lib.hid (HT4.out.below hBy)
          cases gk with
          | zero =>
            obtain rfl : j = xs.length := by omega
            have HCL : Hid (clashG ts gap xs i = false) := Lib.hid (by have := HCJ.out; rwa [List.take_length] at this)
            have hgi := HGL.out ti (List.mem_of_getElem? HTI.out)
            have hat := fromL_at HTI.out
            have hglat : glAt ts i = ti.gl := by simp [glAt, HTI.out]
            have hfr3 := fromL_le ts (i + 1) HGL.out h14
            have hfin2 := HFI.out
            have HSUM : Hid (worth + ti.gl + fromL ts (i + 1) ≤ 56000) := Lib.hid (by
              have : fromL ts i ≤ fromL ts next := fromL_mono ts HGL.out hni
              omega)
            obtain ⟨gi1, gi2⟩ := hgi
            have HG : Hid (∀ W' : World, SameBut B0 Bm Bb w0 W' → W'.cell? ⟨Bt, 0, none⟩ = some (.slice (some ⟨b, off, none⟩) ts.length c) ∧ W'.cell? ⟨Bs, 0, none⟩ = some (.func (.func 96) #[] #[.pointer (some ⟨Bm, 0, none⟩), .pointer (some ⟨Bb, 0, none⟩), .pointer (some ⟨Bt, 0, none⟩), .pointer (some ⟨Bf, 0, none⟩), .pointer (some ⟨Bg, 0, none⟩), .pointer (some ⟨Bs, 0, none⟩)]) ∧ W'.cell? ⟨b, off + i * 6 + 3, none⟩ = some (.int .i64 ti.gl)) := Lib.hid fun W' hs => by
              obtain ⟨l1, l2, l3, l4, l5, l6⟩ := HF.out.lt
              obtain ⟨n1, n2, n3, n4, n5, n6⟩ := HF.out.neM
              obtain ⟨o1, o2, o3, o4, o5, o6⟩ := HF.out.neB
              have hbk : ∀ q : Nat, W'.cell? ⟨b, q, none⟩ = w0.cell? ⟨b, q, none⟩ := fun q => World.cell?_of_block (hs b l6 n6 o6)
              obtain ⟨c0, c1, c2, c3, c4, c5⟩ := HF.out.trees i ti HTI.out
              exact ⟨(boxed_of HF.out.tr (hs _ l1 n1 o1)).cell, (boxed_of HF.out.fn (hs _ l4 n4 o4)).cell, (hbk _).trans c3⟩
            obtain ⟨i0, hi0, hz0, hz1, hz2⟩ := info_parts info3
            have hxs14 : xs.length ≤ 14 := by omega
            have hwr2 : IntKind.i64.wrap (worth + ti.gl) = worth + ti.gl := by rw [IntKind.wrap_i64]; omega
            have hwr3 : IntKind.i64.wrap ((i : Int) + 1) = (i : Int) + 1 := by rw [IntKind.wrap_i64]; omega
            clear hat hfr3 hfin2
            go_wp2_with fail
            refine region_seq (SameBut B0 Bm Bb w0) [(0, true), (1, true), (2, true), (5, true), (6, true), (7, true), (8, true), (9, true), (10, true), (11, true), (12, true), (13, true), (14, true), (3, false), (4, false), (15, false)]
              (by kernel_rfl) (by kernel_rfl) (by kernel_rfl) (by simp) (fun _ _ _ _ h => h) HAy.out.same ?_
            iterate 13 (refine SeqW.take (v := ?_) rfl (by rfl) (fun W' hW => ?_) ?_; rotate_left; (obtain ⟨g0, g1, g2⟩ := HG.out W' hW; clear hW; go_simp; with_reducible rfl); simp only [Act.put, List.setIfInBounds_toArray, List.set_cons_zero, List.set_cons_succ])
            refine SeqW.call rfl (by rfl) (fun K hK => ?_); go_simp
            have hb5' : Below wr.heap.size wr ((wr.alloc (.cells #[.int .i64 (i : Int)] 3)).drew) := ((Below.refl wr.heap.size wr).alloc (Nat.le_refl _) _).drew
            have hA5 := HAy.out.below hb5' hmb2 hmb3 hb3
            refine hK.out _ _ hA5.same ?_
            clear hK K
            refine SeqW.call rfl (by rfl) (fun K hK => ?_)
            refine wp_append_shared (.tmp 54) (.tmp 56) 30 rfl B0 3 i0 (.int .i64 0) 8 Tryd.underlying30 hi0 hz0 hz1 hz2 rfl (.slice va xs.length vc) xs.length (xs.map (fun i : Nat => Value.int .i64 (i : Int))) rfl hA5.bset ⟨wr.heap.size, 0, none⟩ 1 rfl (.int .i64 (i : Int)) ((Boxed.new wr 3 (.int .i64 (i : Int))).cell) rfl (by unfold maxLen; omega) (by omega) hA5.size ?_
            intro v' w6 hr1 hr2 hgr hcase
            obtain ⟨va', vc', rfl⟩ := row_shape hr1
            have hP : Pushed wr ((wr.alloc (.cells #[.int .i64 (i : Int)] 3)).drew) w6 B0 (.slice va xs.length vc) (.slice va' (xs.length + 1) vc') xs i := ⟨hb5', hr1, hr2, hgr, hcase⟩
            have hA6 := HAy.out.push hP hmb2 hmb3 hb3
            go_simp
            refine hK.out _ _ hA6.same ?_
            clear hK K hr1 hr2 hgr hcase hA5 hb5'
            refine SeqW.call rfl (by rfl) (fun K hK => ?_)
            go_simp
            have hrec := HIH.out g (by omega) _ _ (xs ++ [i]) b2 (worth + ti.gl) m2 (i + 1) w6 (by omega) hA6 (fun k hk => by
              rcases List.mem_append.1 hk with hk | hk
              · have := HXS.out k hk; omega
              · simp at hk; omega) (by rw [List.length_append, List.length_singleton]; omega) (by omega) HSUM.out
            rw [Int.natCast_succ] at hrec
            try rw [hwr2, hwr3]
            clear hwr2 hwr3
            refine hrec.mono ?_
            rintro e w7 ⟨rfl, hBest⟩
            obtain ⟨vb', hA7, hT7⟩ := hBest.get
            obtain ⟨st, hst⟩ : ∃ st, st = goS ts gap g (xs ++ [i]) (worth + ti.gl) (i + 1) (better (xs ++ [i]) (worth + ti.gl) (b2, m2)) := ⟨_, rfl⟩
            rw [← hst] at hA7
            have HF3 : Hid (fin = goS ts gap g xs worth (i + 1) (st.1, st.2)) := Lib.hid (by
              rw [HF2.out, goS, if_neg (by dsimp only; rw [← HFI.out]; omega), HCL.out, if_neg (by simp), hglat, hst])
            have HA8 := Lib.hid (HAy.out.pop hP hA7 hT7 hmb2 hmb3)
            have HT8 := Lib.hid (HTy.out.call hP hT7)
            have hs7 := hA7.same
            obtain ⟨a7, c7, rfl⟩ := row_shape hA7.brow
            clear hBest hA7 hT7 hrec hst hP hA6 HF2 HG
            go_simp
            refine hK.out _ _ hs7 ?_
            clear hK K
            refine SeqW.done ?_
            go_wp2_with fail
            go_roundg g
            case rel => exact ⟨i + 1, _, _, _, _, by omega, by go_num, by omega, HA8, HT8, HF3⟩
            case measure => omega
          | succ h =>
            have hjx : j < xs.length := by omega
            obtain ⟨k, hk⟩ : ∃ k, xs[j]? = some k := ⟨_, List.getElem?_eq_getElem hjx⟩
            have hkn : k < ts.length := by have := HXS.out k (List.mem_of_getElem? hk); omega
            obtain ⟨tk, htk⟩ : ∃ t, ts[k]? = some t := ⟨_, List.getElem?_eq_getElem hkn⟩
            obtain ⟨gq, rfl⟩ := row_block HAy.out.bset (by omega)
            have sc : wr.cell? ⟨gq, j, none⟩ = some (.int .i64 (k : Int)) := by
              have := HAy.out.bset.cells (g := gq) rfl j (.int .i64 (k : Int)) (by rw [List.getElem?_map, hk]; rfl)
              rw [Addr.add_lit] at this
              simpa using this
            have hoki := HOK.out ti (List.mem_of_getElem? HTI.out)
            have hokk := HOK.out tk (List.mem_of_getElem? htk)
            have HG : Hid (∀ W' : World, SameBut B0 Bm Bb w0 W' → W'.cell? ⟨Bt, 0, none⟩ = some (.slice (some ⟨b, off, none⟩) ts.length c) ∧ W'.cell? ⟨Bg, 0, none⟩ = some (.int .i64 gap) ∧
                W'.cell? ⟨b, off + k * 6, none⟩ = some (.string tk.tag) ∧ W'.cell? ⟨b, off + k * 6 + 1, none⟩ = some (.int .i64 tk.x) ∧ W'.cell? ⟨b, off + k * 6 + 2, none⟩ = some (.int .i64 tk.y) ∧ W'.cell? ⟨b, off + k * 6 + 3, none⟩ = some (.int .i64 tk.gl) ∧ W'.cell? ⟨b, off + k * 6 + 4, none⟩ = some (.int .i64 tk.gh) ∧ W'.cell? ⟨b, off + k * 6 + 5, none⟩ = some (.int .i64 tk.cr) ∧
                W'.cell? ⟨b, off + i * 6, none⟩ = some (.string ti.tag) ∧ W'.cell? ⟨b, off + i * 6 + 1, none⟩ = some (.int .i64 ti.x) ∧ W'.cell? ⟨b, off + i * 6 + 2, none⟩ = some (.int .i64 ti.y) ∧ W'.cell? ⟨b, off + i * 6 + 3, none⟩ = some (.int .i64 ti.gl) ∧ W'.cell? ⟨b, off + i * 6 + 4, none⟩ = some (.int .i64 ti.gh) ∧ W'.cell? ⟨b, off + i * 6 + 5, none⟩ = some (.int .i64 ti.cr)) := Lib.hid fun W' hs => by
              obtain ⟨l1, l2, l3, l4, l5, l6⟩ := HF.out.lt
              obtain ⟨n1, n2, n3, n4, n5, n6⟩ := HF.out.neM
              obtain ⟨o1, o2, o3, o4, o5, o6⟩ := HF.out.neB
              have hbk : ∀ q : Nat, W'.cell? ⟨b, q, none⟩ = w0.cell? ⟨b, q, none⟩ := fun q => World.cell?_of_block (hs b l6 n6 o6)
              obtain ⟨a0, a1, a2, a3, a4, a5⟩ := HF.out.trees k tk htk
              obtain ⟨c0, c1, c2, c3, c4, c5⟩ := HF.out.trees i ti HTI.out
              exact ⟨(boxed_of HF.out.tr (hs _ l1 n1 o1)).cell, (boxed_of HF.out.gp (hs _ l3 n3 o3)).cell, (hbk _).trans a0, (hbk _).trans a1, (hbk _).trans a2, (hbk _).trans a3, (hbk _).trans a4, (hbk _).trans a5, (hbk _).trans c0, (hbk _).trans c1, (hbk _).trans c2, (hbk _).trans c3, (hbk _).trans c4, (hbk _).trans c5⟩
            have HK := Lib.hid hk
            have HTK := Lib.hid htk
            clear hk htk
            go_wp2_with fail
            refine region_seq (SameBut B0 Bm Bb w0) [(0, true), (1, true), (2, true), (3, true), (4, true), (5, true), (6, true), (7, true), (8, true), (9, false)]
              (by kernel_rfl) (by kernel_rfl) (by kernel_rfl) (by simp) (fun _ _ _ _ h => h) HAy.out.same ?_
            iterate 9 (refine SeqW.take (v := ?_) rfl (by rfl) (fun W' hW => ?_) ?_; rotate_left; (obtain ⟨g0, g1, a0, a1, a2, a3, a4, a5, b0, b1, b2, b3, b4, b5⟩ := HG.out W' hW; clear hW; go_simp; with_reducible rfl); simp only [Act.put, List.setIfInBounds_toArray, List.set_cons_zero, List.set_cons_succ])
            refine SeqW.call rfl (by rfl) (fun K hK => ?_); go_simp
            refine (isWithin_any tk ti gap _ hokk hoki hgap).mono ?_
            rintro e w5 ⟨rfl, hb5⟩
            have hb5' : Below wr.heap.size wr w5 := ((Below.refl _ _).drew).trans (hb5.mono (by simp))
            have HA5 := Lib.hid (HAy.out.below hb5' hmb2 hmb3 hb3)
            have HT5 := Lib.hid (HTy.out.below hb5')
            have hB5 : Below w4.heap.size w4 w5 := hBy.trans (hb5'.mono hBy.size)
            go_simp
            refine hK.out _ _ HA5.out.same ?_
            clear hK K hb5 hb5'
            refine SeqW.done ?_
            clear HG
            have HHIT : Hid (hitB ts gap k i = within tk.x tk.y ti.x ti.y gap) := Lib.hid (hitB_eq HTK.out HTI.out)
            rcases hw5 : within tk.x tk.y ti.x ti.y gap with _ | _
            · go_wp2_with fail
              go_roundg h
              case rel => exact ⟨j + 1, by omega, by go_num, hB5, Lib.hid (clash_step HK.out HCJ.out (by rw [HHIT.out]; exact hw5))⟩
              case measure => omega
            · have HF3 : Hid (fin = goS ts gap g xs worth (i + 1) (b2, m2)) := Lib.hid (by
                rw [HF2.out, goS, if_neg (by dsimp only; rw [← HFI.out]; omega), if_pos (clash_hit HK.out (by rw [HHIT.out]; exact hw5))])
              clear HF2
              go_wp2_with fail
              go_roundg g
              case rel => exact ⟨i + 1, _, _, _, _, by omega, by go_num, by omega, HA5, HT5, HF3⟩
              case measure => omega
end Go.Proofs.YtpkjjiieglebbaaDoor
