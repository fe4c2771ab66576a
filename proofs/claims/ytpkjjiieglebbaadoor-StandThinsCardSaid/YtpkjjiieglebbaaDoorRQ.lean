/- Contract of the reference's Left. Conditions: the trees and the list lie in memory as told; tags fit into memory. -/
import Derived.Test.YtpkjjiieglebbaaDoorRH
import Derived.Test.YtpkjjiieglebbaaDoorLF
import Derived.Test.YtpkjjiieglebbaaDoorRS
namespace Go.Proofs.YtpkjjiieglebbaaDoor
open Go Go.RowKit
def LeftQ (s : Stand) (l : List Int) (w : World) (e : Ending) (w' : World) : Prop :=
  ∃ a' n' c', e = .returned (.tuple #[.agg #[.slice a' n' c', .int .i64 (leftS s l).lo, .int .i64 (leftS s l).hi, .int .i64 (leftS s l).press, .int .i64 (leftS s l).near], .int .i64 (leftE s l)]) ∧
        Trees w' a' n' c' (leftS s l).ts ∧ Below w.heap.size w w'
theorem leftQ_err {s : Stand} {l : List Int} {w w' : World} {x : Int} (hx : leftE s l = x) (h0 : x ≠ 0) (hb : Below w.heap.size w w') : LeftQ s l w (.returned (.tuple #[.agg #[.slice none 0 0, .int .i64 0, .int .i64 0, .int .i64 0, .int .i64 0], .int .i64 x])) w' := by
  have hs : leftS s l = ⟨[], 0, 0, 0, 0⟩ := by unfold leftS; rw [if_neg (by rw [hx]; exact h0)]
  unfold LeftQ
  rw [hs, hx]
  exact ⟨none, 0, 0, rfl, ⟨rfl, .inl rfl, (fun _ h => by cases h), by omega, by omega⟩, hb⟩
/-- What has been looked at: the first i of the list are kept, and the next one must not be less than a number. -/
structure Kept (l : List Int) (n : Nat) (i : Nat) (least : Int) : Prop where
  same : keptE n 0 l = keptE n least (l.drop i)
  low : (i : Int) ≤ least ∧ least ≤ n
  first : i = 0 → least = 0
  prev : 0 < i → l[i - 1]? = some (least - 1)
  all : ∀ x ∈ l.take i, 0 ≤ x ∧ x < (n : Int)
theorem kept_start (l : List Int) (n : Nat) : Kept l n 0 0 := ⟨rfl, by omega, fun _ => rfl, fun h => absurd h (by omega), fun x h => by simp at h⟩
theorem kept_next {l : List Int} {n i : Nat} {least x : Int} (h : Kept l n i least) (hx : l[i]? = some x) (h1 : frB x 0 ((n : Int) - 1) = true) (h2 : least ≤ x) : Kept l n (i + 1) (x + 1) := by
  have hr := frB_iff.1 h1
  have hl := h.low
  obtain ⟨hlt, hxe⟩ := List.getElem?_eq_some_iff.1 hx
  refine ⟨?_, by omega, fun h => absurd h (by omega), fun _ => ?_, fun y hy => ?_⟩
  · rw [h.same, List.drop_eq_getElem_cons hlt, hxe, keptE, if_pos (frB_iff.2 ⟨h2, hr.2⟩)]
  · rw [Nat.add_sub_cancel, hx, show x + 1 - 1 = x by omega]
  · rw [List.take_add_one, hx, List.mem_append] at hy
    rcases hy with hy | hy
    · exact h.all y hy
    · simp at hy; subst hy; omega
theorem kept_bad {l : List Int} {n i : Nat} {least x : Int} (h : Kept l n i least) (hx : l[i]? = some x) (h1 : frB x 0 ((n : Int) - 1) = false ∨ x < least) : keptE n 0 l = 12 := by
  obtain ⟨hlt, hxe⟩ := List.getElem?_eq_some_iff.1 hx
  rw [h.same, List.drop_eq_getElem_cons hlt, hxe, keptE, if_neg]
  intro hc
  have hc := frB_iff.1 hc
  have hl := h.low
  rcases h1 with h1 | h1
  · rw [frB_iff.2 ⟨by omega, hc.2⟩] at h1; cases h1
  · omega
theorem kept_end {l : List Int} {n : Nat} {least : Int} (h : Kept l n l.length least) : keptE n 0 l = 0 := by rw [h.same, List.drop_length]; rfl
set_option maxRecDepth 100000 in
set_option maxHeartbeats 4000000 in
theorem refLeft_any (a ka : Option Addr) (n c kn kc : Nat) (ts : List Tree) (l : List Int) (lo hi pr ne : Int) (w : World) (hT : Trees w a n c ts) (hm : kn ≤ maxLen) (hK : IntsAt w ka kn l) :
    Calls Tryd.prog 34 #[.agg #[.slice a n c, .int .i64 lo, .int .i64 hi, .int .i64 pr, .int .i64 ne], .slice ka kn kc] w (LeftQ ⟨ts, lo, hi, pr, ne⟩ l w) := by
  have hn := hT.len
  subst hn
  have hkn := hK.1
  subst hkn
  unfold maxLen at hm
  have hkm : l.length ≤ 9223372036854775807 := by omega
  have HX : Hid (∀ W, Below (w.heap.size + 2) ((w.alloc (.cells #[.slice a ts.length c, .int .i64 lo, .int .i64 hi, .int .i64 pr, .int .i64 ne] 29)).alloc (.cells #[.slice none 0 0, .int .i64 0, .int .i64 0, .int .i64 0, .int .i64 0] 29)) W → Box W w.heap.size #[.slice a ts.length c, .int .i64 lo, .int .i64 hi, .int .i64 pr, .int .i64 ne] 29 ∧ Box W (w.heap.size + 1) #[.slice none 0 0, .int .i64 0, .int .i64 0, .int .i64 0, .int .i64 0] 29 ∧ Trees W a ts.length c ts ∧ IntsAt W ka l.length l ∧ w.heap.size + 2 ≤ W.heap.size ∧ Below w.heap.size w W) := Lib.hid fun W h => by
    have hB : Below w.heap.size w W := (((Below.refl _ _).alloc (Nat.le_refl _) _).alloc (by simp) _).trans (h.mono (by omega))
    have d := Box.new (w.alloc (.cells #[.slice a ts.length c, .int .i64 lo, .int .i64 hi, .int .i64 pr, .int .i64 ne] 29)) #[.slice none 0 0, .int .i64 0, .int .i64 0, .int .i64 0, .int .i64 0] 29
    rw [World.size_alloc] at d
    exact ⟨((Box.new w _ _).alloc _).below h (by omega), d.below h (by omega), hT.below hB, hK.below hB, by have := h.size; simp at this; omega, hB⟩
  have HFT := Lib.hid hT.tags
  have HTW : Hid (ts = [] ∨ ∃ b off, a = some ⟨b, off, none⟩ ∧ b < w.heap.size ∧ ∀ W, Below (w.heap.size + 2) ((w.alloc (.cells #[.slice a ts.length c, .int .i64 lo, .int .i64 hi, .int .i64 pr, .int .i64 ne] 29)).alloc (.cells #[.slice none 0 0, .int .i64 0, .int .i64 0, .int .i64 0, .int .i64 0] 29)) W → TreesAt W b off ts) := Lib.hid (hT.at_.imp id fun ⟨b, off, e, hl, hc⟩ => ⟨b, off, e, hl, fun W h => hc.below (HX.out W h).2.2.2.2.2 hl⟩)
  have HKW : Hid (l = [] ∨ ∃ b off, ka = some ⟨b, off, none⟩ ∧ b < w.heap.size ∧ ∀ W, Below (w.heap.size + 2) ((w.alloc (.cells #[.slice a ts.length c, .int .i64 lo, .int .i64 hi, .int .i64 pr, .int .i64 ne] 29)).alloc (.cells #[.slice none 0 0, .int .i64 0, .int .i64 0, .int .i64 0, .int .i64 0] 29)) W → ∀ (i : Nat) (x : Int), l[i]? = some x → W.cell? ⟨b, off + i, none⟩ = some (.int .i64 x)) := Lib.hid (hK.2.imp id fun ⟨b, off, e, hl, hc⟩ => ⟨b, off, e, hl, fun W h i x hx => ((HX.out W h).2.2.2.2.2.cell (p := ⟨b, off + i, none⟩) hl).trans (hc i x hx)⟩)
  clear hT hK hm
  obtain ⟨x, hx⟩ : ∃ x, checkE ⟨ts, lo, hi, pr, ne⟩ = x := ⟨_, rfl⟩
  have HCE := Lib.hid hx
  by_cases h0 : x = 0
  case neg =>
    have HE : Hid (leftE ⟨ts, lo, hi, pr, ne⟩ l = x) := Lib.hid (by unfold leftE; rw [orE_two, hx, if_neg h0])
    have hb : (x != 0) = true := by simpa using h0
    have H0 := Lib.hid h0
    clear hx h0
    go_enter Tryd.func34, Tryd.ntmps34
    go_wp2_with fail
    refine (refCheck_any a ts.length c ts lo hi pr ne _ (HX.out _ (Below.refl _ _)).2.2.1).mono ?_
    rw [HCE.out]
    rintro e w1 ⟨rfl, hb1⟩
    have S1 : Below (w.heap.size + 2) ((w.alloc (.cells #[.slice a ts.length c, .int .i64 lo, .int .i64 hi, .int .i64 pr, .int .i64 ne] 29)).alloc (.cells #[.slice none 0 0, .int .i64 0, .int .i64 0, .int .i64 0, .int .i64 0] 29)) w1 := hb1.mono (by simp)
    have D1 := (HX.out _ S1).2.1
    have d0 : w1.cell? ⟨w.heap.size + 1, 0, none⟩ = some (.slice none 0 0) := D1.cell 0
    have d1 : w1.cell? ⟨w.heap.size + 1, 1, none⟩ = some (.int .i64 0) := D1.cell 1
    have d2 : w1.cell? ⟨w.heap.size + 1, 2, none⟩ = some (.int .i64 0) := D1.cell 2
    have d3 : w1.cell? ⟨w.heap.size + 1, 3, none⟩ = some (.int .i64 0) := D1.cell 3
    have d4 : w1.cell? ⟨w.heap.size + 1, 4, none⟩ = some (.int .i64 0) := D1.cell 4
    have q0 : w1.frozen? ⟨w.heap.size + 1, 0, none⟩ = false := D1.free 0
    have q1 : w1.frozen? ⟨w.heap.size + 1, 1, none⟩ = false := D1.free 1
    have q2 : w1.frozen? ⟨w.heap.size + 1, 2, none⟩ = false := D1.free 2
    have q3 : w1.frozen? ⟨w.heap.size + 1, 3, none⟩ = false := D1.free 3
    have q4 : w1.frozen? ⟨w.heap.size + 1, 4, none⟩ = false := D1.free 4
    have HS1 := Lib.hid S1
    have HD1 := Lib.hid D1
    clear hb1 S1 D1
    go_wp2_with fail
    have bR := put5.box HD1.out (.slice none 0 0) (.int .i64 0) (.int .i64 0) (.int .i64 0) (.int .i64 0)
    have r0 := bR.cell 0; have r1 := bR.cell 1; have r2 := bR.cell 2; have r3 := bR.cell 3; have r4 := bR.cell 4
    simp [put5] at r0 r1 r2 r3 r4
    exact bodyPost_ret (v := .tuple #[.agg #[.slice none 0 0, .int .i64 0, .int .i64 0, .int .i64 0, .int .i64 0], .int .i64 x]) (by simp [results, Tryd.results34, go_sem, r0, r1, r2, r3, r4]) rfl (leftQ_err HE.out H0.out (put5.below (HX.out _ HS1.out).2.2.2.2.2 (Nat.le_succ _) _ _ _ _ _))
  subst h0
  obtain ⟨hv, h14, hok, _⟩ := valid_of hx
  dsimp only at h14 hok
  have HLE : Hid (leftE ⟨ts, lo, hi, pr, ne⟩ l = keptE ts.length 0 l) := Lib.hid (by unfold leftE; rw [orE_two, hx, if_pos rfl])
  obtain ⟨i0, hi0, hzz⟩ := Option.map_eq_some_iff.1 infoTree
  simp only [Prod.mk.injEq, Option.map_eq_some_iff] at hzz
  obtain ⟨⟨z6, hz0, hzs⟩, hz1, hz2⟩ := hzz
  clear hx hv hok
  go_enter Tryd.func34, Tryd.ntmps34
  go_wp2_with fail
  refine (refCheck_any a ts.length c ts lo hi pr ne _ (HX.out _ (Below.refl _ _)).2.2.1).mono ?_
  rw [HCE.out]
  rintro e w1 ⟨rfl, hb1⟩
  have S1 : Below (w.heap.size + 2) ((w.alloc (.cells #[.slice a ts.length c, .int .i64 lo, .int .i64 hi, .int .i64 pr, .int .i64 ne] 29)).alloc (.cells #[.slice none 0 0, .int .i64 0, .int .i64 0, .int .i64 0, .int .i64 0] 29)) w1 := hb1.mono (by simp)
  have A1 := (HX.out _ S1).1
  have z1 := (HX.out _ S1).2.2.2.2.1
  have s0 : w1.cell? ⟨w.heap.size, 0, none⟩ = some (.slice a ts.length c) := A1.cell 0
  have s1 : w1.cell? ⟨w.heap.size, 1, none⟩ = some (.int .i64 lo) := A1.cell 1
  have s2 : w1.cell? ⟨w.heap.size, 2, none⟩ = some (.int .i64 hi) := A1.cell 2
  have s3 : w1.cell? ⟨w.heap.size, 3, none⟩ = some (.int .i64 pr) := A1.cell 3
  have s4 : w1.cell? ⟨w.heap.size, 4, none⟩ = some (.int .i64 ne) := A1.cell 4
  have HS1 := Lib.hid S1
  clear hb1 S1 A1
  go_wp2_with fail
  go_loopw [8] (fun iv wr => ∃ (i : Nat) (va : Option Addr) (vc : Nat) (least : Int), i ≤ l.length ∧ iv = .int .i64 i ∧ i ≤ ts.length ∧ Hid (Kept l ts.length i least) ∧ Hid (wr.ownsRow (w1.heap.size + 1) 62 6 (.slice va i vc) i (treeCells (leftL ts (l.take i)))) ∧ Hid (Box wr w1.heap.size #[.slice va i vc, .int .i64 lo, .int .i64 hi, .int .i64 pr, .int .i64 ne] 29) ∧ Hid (Below (w.heap.size + 2) ((w.alloc (.cells #[.slice a ts.length c, .int .i64 lo, .int .i64 hi, .int .i64 pr, .int .i64 ne] 29)).alloc (.cells #[.slice none 0 0, .int .i64 0, .int .i64 0, .int .i64 0, .int .i64 0] 29)) wr) ∧ w1.heap.size + 1 ≤ wr.heap.size) (fun iv _ => l.length - (intOf iv).toNat)
  case atStart => exact ⟨0, none, 0, 0, Nat.zero_le _, rfl, Nat.zero_le _, Lib.hid (kept_start _ _), Lib.hid (World.ownsRow_nil _ _ _ _), Lib.hid (Box.new _ _ _), Lib.hid (HS1.out.alloc z1 _), by simp⟩
  case round =>
    obtain ⟨i, va, vc, least, hi1, rfl, hin, HKP, HR, HK, HB, hzw⟩ := hrel
    obtain ⟨A1, D1, _, _, _, BW⟩ := HX.out _ HB.out
    have d0 : wr.cell? ⟨w.heap.size + 1, 0, none⟩ = some (.slice none 0 0) := D1.cell 0
    have d1 : wr.cell? ⟨w.heap.size + 1, 1, none⟩ = some (.int .i64 0) := D1.cell 1
    have d2 : wr.cell? ⟨w.heap.size + 1, 2, none⟩ = some (.int .i64 0) := D1.cell 2
    have d3 : wr.cell? ⟨w.heap.size + 1, 3, none⟩ = some (.int .i64 0) := D1.cell 3
    have d4 : wr.cell? ⟨w.heap.size + 1, 4, none⟩ = some (.int .i64 0) := D1.cell 4
    have q0 : wr.frozen? ⟨w.heap.size + 1, 0, none⟩ = false := D1.free 0
    have q1 : wr.frozen? ⟨w.heap.size + 1, 1, none⟩ = false := D1.free 1
    have q2 : wr.frozen? ⟨w.heap.size + 1, 2, none⟩ = false := D1.free 2
    have q3 : wr.frozen? ⟨w.heap.size + 1, 3, none⟩ = false := D1.free 3
    have q4 : wr.frozen? ⟨w.heap.size + 1, 4, none⟩ = false := D1.free 4
    have HD := Lib.hid D1
    have s0 : wr.cell? ⟨w.heap.size, 0, none⟩ = some (.slice a ts.length c) := A1.cell 0
    clear s1 s2 s3 s4 A1 D1
    by_cases hil : i < l.length
    case neg =>
      obtain rfl : i = l.length := by omega
      have HKZ := Lib.hid (kept_end HKP.out)
      have K1 := HK.out
      have k0 : wr.cell? ⟨w1.heap.size, 0, none⟩ = some (.slice va l.length vc) := K1.cell 0
      have k1 : wr.cell? ⟨w1.heap.size, 1, none⟩ = some (.int .i64 lo) := K1.cell 1
      have k2 : wr.cell? ⟨w1.heap.size, 2, none⟩ = some (.int .i64 hi) := K1.cell 2
      have k3 : wr.cell? ⟨w1.heap.size, 3, none⟩ = some (.int .i64 pr) := K1.cell 3
      have k4 : wr.cell? ⟨w1.heap.size, 4, none⟩ = some (.int .i64 ne) := K1.cell 4
      have hLT : leftL ts l = leftL ts (l.take l.length) := by rw [List.take_length]
      have HLS : Hid (leftS ⟨ts, lo, hi, pr, ne⟩ l = ⟨leftL ts l, lo, hi, pr, ne⟩) := Lib.hid (by unfold leftS; rw [if_pos (by rw [HLE.out, HKZ.out])])
      have HAL := HKP.out.all
      rw [List.take_length] at HAL
      have hll : (leftL ts l).length = l.length := leftL_len HAL
      have HTR : Hid (Trees (put5 wr (w.heap.size + 1) (.slice va l.length vc) (.int .i64 lo) (.int .i64 hi) (.int .i64 pr) (.int .i64 ne)) va l.length vc (leftL ts l)) := Lib.hid (by
        have hr := HR.out
        rw [List.take_length] at hr
        refine trees_of_row (base := w1.heap.size + 1) (ownsRow_put5 ?_ (by omega) _ _ _ _ _) hll.symm (fun t ht => HFT.out t (leftL_mem ht)) (by omega)
        rw [hll]; exact hr)
      clear K1 HAL hll hLT
      go_wp2_with fail
      have bR := put5.box HD.out (.slice va l.length vc) (.int .i64 lo) (.int .i64 hi) (.int .i64 pr) (.int .i64 ne)
      have r0 := bR.cell 0; have r1 := bR.cell 1; have r2 := bR.cell 2; have r3 := bR.cell 3; have r4 := bR.cell 4
      simp [put5] at r0 r1 r2 r3 r4
      refine bodyPost_ret (v := .tuple #[.agg #[.slice va l.length vc, .int .i64 lo, .int .i64 hi, .int .i64 pr, .int .i64 ne], .int .i64 0]) (by simp [results, Tryd.results34, go_sem, r0, r1, r2, r3, r4]) rfl ?_
      unfold LeftQ
      rw [HLS.out, HLE.out, HKZ.out]
      exact ⟨va, l.length, vc, rfl, HTR.out, put5.below BW (Nat.le_succ _) _ _ _ _ _⟩
    obtain ⟨x, hx⟩ : ∃ x, l[i]? = some x := ⟨_, List.getElem?_eq_getElem hil⟩
    obtain ⟨kb, koff, rfl, hkb, hKC⟩ := HKW.out.resolve_left (fun h => by subst h; simp at hil)
    have c1 : wr.cell? ⟨kb, koff + i, none⟩ = some (.int .i64 x) := hKC wr HB.out i x hx
    have hKC' := Lib.hid hKC
    have hwn : IntKind.i64.wrap ((ts.length : Int) - 1) = (ts.length : Int) - 1 := by rw [IntKind.wrap_i64]; omega
    have HXI := Lib.hid hx
    clear hx hKC BW
    rcases hf : frB x 0 ((ts.length : Int) - 1) with _ | _
    · have HE : Hid (leftE ⟨ts, lo, hi, pr, ne⟩ l = 12) := Lib.hid (by rw [HLE.out, kept_bad HKP.out HXI.out (.inl hf)])
      have HIN := Lib.hid hf
      clear hf
      go_wp2_with fail
      refine region_seq (fun W => ∀ p, W.cell? p = wr.cell? p) [(0, true), (1, true), (2, true), (3, true), (4, true), (5, true), (6, true), (7, true), (8, false), (9, true), (10, true), (11, true), (12, true), (13, true), (14, true), (15, true), (16, true), (17, true), (18, true), (19, true), (20, true), (21, true), (22, true), (23, true), (24, true), (25, true)]
        (by kernel_rfl) (by kernel_rfl) (by kernel_rfl) (by simp) (fun _ _ _ _ h => h) (fun _ => rfl) ?_
      iterate 8 (refine SeqW.take (v := ?_) rfl (by rfl) (fun W hW => ?_) ?_; rotate_left; (go_simp; with_reducible rfl); simp only [Act.put, List.setIfInBounds_toArray, List.set_cons_zero, List.set_cons_succ])
      refine SeqW.call rfl (by rfl) (fun K hK => ?_)
      go_simp
      refine (refIn_any _ _ _ _).mono ?_
      rw [HIN.out]
      rintro e w' ⟨rfl, rfl⟩
      go_simp
      refine hK.out _ _ (fun _ => rfl) ?_
      clear hK K
      iterate 2 (refine SeqW.take (v := ?_) rfl (by rfl) (fun W hW => ?_) ?_; rotate_left; (go_simp; with_reducible rfl); simp only [Act.put, List.setIfInBounds_toArray, List.set_cons_zero, List.set_cons_succ])
      iterate 14 (refine SeqW.skip rfl (by rfl) ?_; simp only [Act.put, List.setIfInBounds_toArray, List.set_cons_zero, List.set_cons_succ])
      (refine SeqW.take (v := ?_) rfl (by rfl) (fun W hW => ?_) ?_; rotate_left; (go_simp; with_reducible rfl); simp only [Act.put, List.setIfInBounds_toArray, List.set_cons_zero, List.set_cons_succ])
      refine SeqW.done ?_
      go_wp2_with fail
      have bR := put5.box HD.out (.slice none 0 0) (.int .i64 0) (.int .i64 0) (.int .i64 0) (.int .i64 0)
      have r0 := bR.cell 0; have r1 := bR.cell 1; have r2 := bR.cell 2; have r3 := bR.cell 3; have r4 := bR.cell 4
      simp [put5] at r0 r1 r2 r3 r4
      exact bodyPost_ret (v := .tuple #[.agg #[.slice none 0 0, .int .i64 0, .int .i64 0, .int .i64 0, .int .i64 0], .int .i64 12]) (by simp [results, Tryd.results34, go_sem, r0, r1, r2, r3, r4]) rfl (leftQ_err HE.out (by decide) (put5.below (HX.out _ HB.out).2.2.2.2.2 (Nat.le_succ _) _ _ _ _ _).drew)
    have HIN := Lib.hid hf
    have hxr := frB_iff.1 hf
    obtain ⟨xn, rfl⟩ : ∃ xn : Nat, x = xn := ⟨x.toNat, by omega⟩
    have hxn : xn < ts.length := by omega
    have hlow := HKP.out.low
    have hcond : (i = 0 ∨ 0 < i) := by omega
    have hLST : i = 0 → least = 0 := HKP.out.first
    rcases hcond with h0 | h0
    · have HKN := Lib.hid (kept_next HKP.out HXI.out hf (by have := hLST h0; omega))
      have hg : ¬ ((0 : Int) < (i : Int)) := by omega
      have hg2 : decide ((0 : Int) < (i : Int)) = false := by rw [decide_eq_false_iff_not]; omega
      have hg3 : decide (0 < i) = false := by rw [decide_eq_false_iff_not]; omega
      obtain ⟨u, hu⟩ : ∃ u, ts[xn]? = some u := ⟨_, List.getElem?_eq_getElem hxn⟩
      obtain ⟨b, off, rfl, hbl, hTA⟩ := HTW.out.resolve_left (fun h => by subst h; simp at hxn)
      obtain ⟨f0, f1, f2, f3, f4, f5⟩ := hTA wr HB.out xn u hu
      have HLL : Hid (treeCells (leftL ts (l.take (i + 1))) = treeCells (leftL ts (l.take i)) ++ [.string u.tag, .int .i64 u.x, .int .i64 u.y, .int .i64 u.gl, .int .i64 u.gh, .int .i64 u.cr]) := Lib.hid (by
        rw [List.take_add_one, HXI.out]
        have e : leftL ts (l.take i ++ [(xn : Int)]) = leftL ts (l.take i) ++ [u] := by unfold leftL; rw [List.filterMap_append]; simp [hu]
        rw [show l.take i ++ (some (xn : Int)).toList = l.take i ++ [(xn : Int)] from rfl, e, treeCells_snoc])
      obtain ⟨tag, tx, ty, gl, gh, cr⟩ := u
      dsimp only at f0 f1 f2 f3 f4 f5
      clear hTA hu
      clear h0 hLST hf hxr hlow
      go_wp2_with fail
      refine region_seq (fun W => ∀ p, W.cell? p = wr.cell? p) [(0, true), (1, true), (2, true), (3, true), (4, true), (5, true), (6, true), (7, true), (8, false), (9, true), (10, true), (11, true), (12, true), (13, true), (14, true), (15, true), (16, true), (17, true), (18, true), (19, true), (20, true), (21, true), (22, true), (23, true), (24, true), (25, true)]
        (by kernel_rfl) (by kernel_rfl) (by kernel_rfl) (by simp) (fun _ _ _ _ h => h) (fun _ => rfl) ?_
      iterate 8 (refine SeqW.take (v := ?_) rfl (by rfl) (fun W hW => ?_) ?_; rotate_left; (go_simp; with_reducible rfl); simp only [Act.put, List.setIfInBounds_toArray, List.set_cons_zero, List.set_cons_succ])
      refine SeqW.call rfl (by rfl) (fun K hK => ?_)
      go_simp
      refine (refIn_any _ _ _ _).mono ?_
      rw [HIN.out]
      rintro e w' ⟨rfl, rfl⟩
      go_simp
      refine hK.out _ _ (fun _ => rfl) ?_
      clear hK K
      iterate 2 (refine SeqW.take (v := ?_) rfl (by rfl) (fun W hW => ?_) ?_; rotate_left; (go_simp; with_reducible rfl); simp only [Act.put, List.setIfInBounds_toArray, List.set_cons_zero, List.set_cons_succ])
      iterate 3 (refine SeqW.take (v := ?_) rfl (by rfl) (fun W hW => ?_) ?_; rotate_left; (go_simp; with_reducible rfl); simp only [Act.put, List.setIfInBounds_toArray, List.set_cons_zero, List.set_cons_succ])
      iterate 10 (refine SeqW.skip rfl (by rfl) ?_; simp only [Act.put, List.setIfInBounds_toArray, List.set_cons_zero, List.set_cons_succ])
      iterate 2 (refine SeqW.take (v := ?_) rfl (by rfl) (fun W hW => ?_) ?_; rotate_left; (go_simp; with_reducible rfl); simp only [Act.put, List.setIfInBounds_toArray, List.set_cons_zero, List.set_cons_succ])
      refine SeqW.done ?_
      go_wp2_with fail
      have hSd : Below w1.heap.size wr wr.drew.drew := (Below.refl _ _).drew.drew
      refine region_planS (fun W => Below w1.heap.size wr W) (.take 0 (.take 2 (.take 3 (.take 4 (.take 5 (.take 6 (.take 7 (.take 8 (.take 9 (.two 1 10 (.one 10 (.one 11 (.take 12 (.one 13 .done)))) (.one 1 (.one 11 (.take 12 (.one 13 .done))))))))))))))
        (by kernel_rfl) (by kernel_rfl) (by kernel_rfl) (by simp [Plan.depth]) (fun _ _ _ _ h => h) hSd ?_
      (refine PlanS.free (v := ?_) rfl (by rfl) (fun W hW => ?_) ?_; rotate_left; (have l0 := (hW.cell (p := ⟨w.heap.size, 0, none⟩) (by show w.heap.size < w1.heap.size; omega)).trans s0; have l1 := (hW.cell (p := ⟨kb, koff + i, none⟩) (by show kb < w1.heap.size; omega)).trans c1; have l2 := (hW.cell (p := ⟨b, off + xn * 6, none⟩) (by show b < w1.heap.size; omega)).trans f0; have l3 := (hW.cell (p := ⟨b, off + xn * 6 + 1, none⟩) (by show b < w1.heap.size; omega)).trans f1; have l4 := (hW.cell (p := ⟨b, off + xn * 6 + 2, none⟩) (by show b < w1.heap.size; omega)).trans f2; have l5 := (hW.cell (p := ⟨b, off + xn * 6 + 3, none⟩) (by show b < w1.heap.size; omega)).trans f3; have l6 := (hW.cell (p := ⟨b, off + xn * 6 + 4, none⟩) (by show b < w1.heap.size; omega)).trans f4; have l7 := (hW.cell (p := ⟨b, off + xn * 6 + 5, none⟩) (by show b < w1.heap.size; omega)).trans f5; clear hW; go_simp; with_reducible rfl); simp only [Act.put, List.setIfInBounds_toArray, List.set_cons_zero, List.set_cons_succ])
      (refine PlanS.free (v := ?_) rfl (by rfl) (fun W hW => ?_) ?_; rotate_left; (have l0 := (hW.cell (p := ⟨w.heap.size, 0, none⟩) (by show w.heap.size < w1.heap.size; omega)).trans s0; have l1 := (hW.cell (p := ⟨kb, koff + i, none⟩) (by show kb < w1.heap.size; omega)).trans c1; have l2 := (hW.cell (p := ⟨b, off + xn * 6, none⟩) (by show b < w1.heap.size; omega)).trans f0; have l3 := (hW.cell (p := ⟨b, off + xn * 6 + 1, none⟩) (by show b < w1.heap.size; omega)).trans f1; have l4 := (hW.cell (p := ⟨b, off + xn * 6 + 2, none⟩) (by show b < w1.heap.size; omega)).trans f2; have l5 := (hW.cell (p := ⟨b, off + xn * 6 + 3, none⟩) (by show b < w1.heap.size; omega)).trans f3; have l6 := (hW.cell (p := ⟨b, off + xn * 6 + 4, none⟩) (by show b < w1.heap.size; omega)).trans f4; have l7 := (hW.cell (p := ⟨b, off + xn * 6 + 5, none⟩) (by show b < w1.heap.size; omega)).trans f5; clear hW; go_simp; with_reducible rfl); simp only [Act.put, List.setIfInBounds_toArray, List.set_cons_zero, List.set_cons_succ])
      (refine PlanS.free (v := ?_) rfl (by rfl) (fun W hW => ?_) ?_; rotate_left; (have l0 := (hW.cell (p := ⟨w.heap.size, 0, none⟩) (by show w.heap.size < w1.heap.size; omega)).trans s0; have l1 := (hW.cell (p := ⟨kb, koff + i, none⟩) (by show kb < w1.heap.size; omega)).trans c1; have l2 := (hW.cell (p := ⟨b, off + xn * 6, none⟩) (by show b < w1.heap.size; omega)).trans f0; have l3 := (hW.cell (p := ⟨b, off + xn * 6 + 1, none⟩) (by show b < w1.heap.size; omega)).trans f1; have l4 := (hW.cell (p := ⟨b, off + xn * 6 + 2, none⟩) (by show b < w1.heap.size; omega)).trans f2; have l5 := (hW.cell (p := ⟨b, off + xn * 6 + 3, none⟩) (by show b < w1.heap.size; omega)).trans f3; have l6 := (hW.cell (p := ⟨b, off + xn * 6 + 4, none⟩) (by show b < w1.heap.size; omega)).trans f4; have l7 := (hW.cell (p := ⟨b, off + xn * 6 + 5, none⟩) (by show b < w1.heap.size; omega)).trans f5; clear hW; go_simp; with_reducible rfl); simp only [Act.put, List.setIfInBounds_toArray, List.set_cons_zero, List.set_cons_succ])
      (refine PlanS.free (v := ?_) rfl (by rfl) (fun W hW => ?_) ?_; rotate_left; (have l0 := (hW.cell (p := ⟨w.heap.size, 0, none⟩) (by show w.heap.size < w1.heap.size; omega)).trans s0; have l1 := (hW.cell (p := ⟨kb, koff + i, none⟩) (by show kb < w1.heap.size; omega)).trans c1; have l2 := (hW.cell (p := ⟨b, off + xn * 6, none⟩) (by show b < w1.heap.size; omega)).trans f0; have l3 := (hW.cell (p := ⟨b, off + xn * 6 + 1, none⟩) (by show b < w1.heap.size; omega)).trans f1; have l4 := (hW.cell (p := ⟨b, off + xn * 6 + 2, none⟩) (by show b < w1.heap.size; omega)).trans f2; have l5 := (hW.cell (p := ⟨b, off + xn * 6 + 3, none⟩) (by show b < w1.heap.size; omega)).trans f3; have l6 := (hW.cell (p := ⟨b, off + xn * 6 + 4, none⟩) (by show b < w1.heap.size; omega)).trans f4; have l7 := (hW.cell (p := ⟨b, off + xn * 6 + 5, none⟩) (by show b < w1.heap.size; omega)).trans f5; clear hW; go_simp; with_reducible rfl); simp only [Act.put, List.setIfInBounds_toArray, List.set_cons_zero, List.set_cons_succ])
      (refine PlanS.free (v := ?_) rfl (by rfl) (fun W hW => ?_) ?_; rotate_left; (have l0 := (hW.cell (p := ⟨w.heap.size, 0, none⟩) (by show w.heap.size < w1.heap.size; omega)).trans s0; have l1 := (hW.cell (p := ⟨kb, koff + i, none⟩) (by show kb < w1.heap.size; omega)).trans c1; have l2 := (hW.cell (p := ⟨b, off + xn * 6, none⟩) (by show b < w1.heap.size; omega)).trans f0; have l3 := (hW.cell (p := ⟨b, off + xn * 6 + 1, none⟩) (by show b < w1.heap.size; omega)).trans f1; have l4 := (hW.cell (p := ⟨b, off + xn * 6 + 2, none⟩) (by show b < w1.heap.size; omega)).trans f2; have l5 := (hW.cell (p := ⟨b, off + xn * 6 + 3, none⟩) (by show b < w1.heap.size; omega)).trans f3; have l6 := (hW.cell (p := ⟨b, off + xn * 6 + 4, none⟩) (by show b < w1.heap.size; omega)).trans f4; have l7 := (hW.cell (p := ⟨b, off + xn * 6 + 5, none⟩) (by show b < w1.heap.size; omega)).trans f5; clear hW; go_simp; with_reducible rfl); simp only [Act.put, List.setIfInBounds_toArray, List.set_cons_zero, List.set_cons_succ])
      (refine PlanS.free (v := ?_) rfl (by rfl) (fun W hW => ?_) ?_; rotate_left; (have l0 := (hW.cell (p := ⟨w.heap.size, 0, none⟩) (by show w.heap.size < w1.heap.size; omega)).trans s0; have l1 := (hW.cell (p := ⟨kb, koff + i, none⟩) (by show kb < w1.heap.size; omega)).trans c1; have l2 := (hW.cell (p := ⟨b, off + xn * 6, none⟩) (by show b < w1.heap.size; omega)).trans f0; have l3 := (hW.cell (p := ⟨b, off + xn * 6 + 1, none⟩) (by show b < w1.heap.size; omega)).trans f1; have l4 := (hW.cell (p := ⟨b, off + xn * 6 + 2, none⟩) (by show b < w1.heap.size; omega)).trans f2; have l5 := (hW.cell (p := ⟨b, off + xn * 6 + 3, none⟩) (by show b < w1.heap.size; omega)).trans f3; have l6 := (hW.cell (p := ⟨b, off + xn * 6 + 4, none⟩) (by show b < w1.heap.size; omega)).trans f4; have l7 := (hW.cell (p := ⟨b, off + xn * 6 + 5, none⟩) (by show b < w1.heap.size; omega)).trans f5; clear hW; go_simp; with_reducible rfl); simp only [Act.put, List.setIfInBounds_toArray, List.set_cons_zero, List.set_cons_succ])
      (refine PlanS.free (v := ?_) rfl (by rfl) (fun W hW => ?_) ?_; rotate_left; (have l0 := (hW.cell (p := ⟨w.heap.size, 0, none⟩) (by show w.heap.size < w1.heap.size; omega)).trans s0; have l1 := (hW.cell (p := ⟨kb, koff + i, none⟩) (by show kb < w1.heap.size; omega)).trans c1; have l2 := (hW.cell (p := ⟨b, off + xn * 6, none⟩) (by show b < w1.heap.size; omega)).trans f0; have l3 := (hW.cell (p := ⟨b, off + xn * 6 + 1, none⟩) (by show b < w1.heap.size; omega)).trans f1; have l4 := (hW.cell (p := ⟨b, off + xn * 6 + 2, none⟩) (by show b < w1.heap.size; omega)).trans f2; have l5 := (hW.cell (p := ⟨b, off + xn * 6 + 3, none⟩) (by show b < w1.heap.size; omega)).trans f3; have l6 := (hW.cell (p := ⟨b, off + xn * 6 + 4, none⟩) (by show b < w1.heap.size; omega)).trans f4; have l7 := (hW.cell (p := ⟨b, off + xn * 6 + 5, none⟩) (by show b < w1.heap.size; omega)).trans f5; clear hW; go_simp; with_reducible rfl); simp only [Act.put, List.setIfInBounds_toArray, List.set_cons_zero, List.set_cons_succ])
      (refine PlanS.free (v := ?_) rfl (by rfl) (fun W hW => ?_) ?_; rotate_left; (have l0 := (hW.cell (p := ⟨w.heap.size, 0, none⟩) (by show w.heap.size < w1.heap.size; omega)).trans s0; have l1 := (hW.cell (p := ⟨kb, koff + i, none⟩) (by show kb < w1.heap.size; omega)).trans c1; have l2 := (hW.cell (p := ⟨b, off + xn * 6, none⟩) (by show b < w1.heap.size; omega)).trans f0; have l3 := (hW.cell (p := ⟨b, off + xn * 6 + 1, none⟩) (by show b < w1.heap.size; omega)).trans f1; have l4 := (hW.cell (p := ⟨b, off + xn * 6 + 2, none⟩) (by show b < w1.heap.size; omega)).trans f2; have l5 := (hW.cell (p := ⟨b, off + xn * 6 + 3, none⟩) (by show b < w1.heap.size; omega)).trans f3; have l6 := (hW.cell (p := ⟨b, off + xn * 6 + 4, none⟩) (by show b < w1.heap.size; omega)).trans f4; have l7 := (hW.cell (p := ⟨b, off + xn * 6 + 5, none⟩) (by show b < w1.heap.size; omega)).trans f5; clear hW; go_simp; with_reducible rfl); simp only [Act.put, List.setIfInBounds_toArray, List.set_cons_zero, List.set_cons_succ])
      (refine PlanS.free (v := ?_) rfl (by rfl) (fun W hW => ?_) ?_; rotate_left; (have l0 := (hW.cell (p := ⟨w.heap.size, 0, none⟩) (by show w.heap.size < w1.heap.size; omega)).trans s0; have l1 := (hW.cell (p := ⟨kb, koff + i, none⟩) (by show kb < w1.heap.size; omega)).trans c1; have l2 := (hW.cell (p := ⟨b, off + xn * 6, none⟩) (by show b < w1.heap.size; omega)).trans f0; have l3 := (hW.cell (p := ⟨b, off + xn * 6 + 1, none⟩) (by show b < w1.heap.size; omega)).trans f1; have l4 := (hW.cell (p := ⟨b, off + xn * 6 + 2, none⟩) (by show b < w1.heap.size; omega)).trans f2; have l5 := (hW.cell (p := ⟨b, off + xn * 6 + 3, none⟩) (by show b < w1.heap.size; omega)).trans f3; have l6 := (hW.cell (p := ⟨b, off + xn * 6 + 4, none⟩) (by show b < w1.heap.size; omega)).trans f4; have l7 := (hW.cell (p := ⟨b, off + xn * 6 + 5, none⟩) (by show b < w1.heap.size; omega)).trans f5; clear hW; go_simp; with_reducible rfl); simp only [Act.put, List.setIfInBounds_toArray, List.set_cons_zero, List.set_cons_succ])
      have k0 : wr.cell? ⟨w1.heap.size, 0, none⟩ = some (.slice va i vc) := HK.out.cell 0
      have k0' : (wr.alloc (.cells #[.string tag, .int .i64 tx, .int .i64 ty, .int .i64 gl, .int .i64 gh, .int .i64 cr] 62)).cell? ⟨w1.heap.size, 0, none⟩ = some (.slice va i vc) := (HK.out.alloc _).cell 0
      refine And.intro ?_ ?_
      · refine wpOp_planS rfl (by rfl) (fun K hK => ?_)
        go_simp
        refine hK.out _ _ hSd ?_
        clear hK K
        refine PlanS.call rfl (by rfl) (fun K hK => ?_)
        go_simp
        refine hK.out _ _ (((Below.refl w1.heap.size wr).alloc (by omega) (.cells #[.string tag, .int .i64 tx, .int .i64 ty, .int .i64 gl, .int .i64 gh, .int .i64 cr] 62)).drew.drew) ?_
        clear hK K
        refine PlanS.call rfl (by rfl) (fun K hK => ?_)
        have bN := (Box.new wr #[.string tag, .int .i64 tx, .int .i64 ty, .int .i64 gl, .int .i64 gh, .int .i64 cr] 62).drew.drew
        have hO1 := (HR.out.alloc (.cells #[.string tag, .int .i64 tx, .int .i64 ty, .int .i64 gl, .int .i64 gh, .int .i64 cr] 62)).drew.drew
        refine wp_append_own _ (.tmp 56) (.tmp 65) 25 rfl (w1.heap.size + 1) 62 i0 z6 6 56 Tryd.underlying25 hi0 hz0 hz1 hz2 hzs (by decide) (.slice va i vc) i (treeCells (leftL ts (l.take i))) rfl hO1 ⟨wr.heap.size, 0, none⟩ 1 1 [.string tag, .int .i64 tx, .int .i64 ty, .int .i64 gl, .int .i64 gh, .int .i64 cr] rfl (by rfl) (fun j x hx => by rw [Addr.add_lit, Nat.zero_add, bN.cell]; simpa using hx) (by simp [Value.oneCell']) (by unfold maxLen; omega) (by omega) (by simp; omega) ?_
        intro v' w3 hown hgrow _
        obtain ⟨va', vc', rfl⟩ := row_form hown
        have hS3 : Below w1.heap.size wr w3 := (((Below.refl w1.heap.size wr).alloc (by omega) (.cells #[.string tag, .int .i64 tx, .int .i64 ty, .int .i64 gl, .int .i64 gh, .int .i64 cr] 62)).drew.drew).grown hgrow (by simp; omega) (fun j ej => by have := row_ge hO1 j ej; omega)
        refine hK.out _ _ hS3 ?_
        clear hK K
        have kg := ((HK.out.alloc (.cells #[.string tag, .int .i64 tx, .int .i64 ty, .int .i64 gl, .int .i64 gh, .int .i64 cr] 62)).drew.drew).grown hgrow hO1 (by omega)
        have k1 : w3.cell? ⟨w1.heap.size, 0, none⟩ = some (.slice va i vc) := kg.cell 0
        have fq : w3.frozen? ⟨w1.heap.size, 0, none⟩ = false := kg.free 0
        have hB3 := ((HB.out.alloc (by omega) (.cells #[.string tag, .int .i64 tx, .int .i64 ty, .int .i64 gl, .int .i64 gh, .int .i64 cr] 62)).drew.drew).grown hgrow (by simp; omega) (fun j ej => by have := row_ge hO1 j ej; omega)
        have hz3 := hgrow.size
        (refine PlanS.free (v := ?_) rfl (by rfl) (fun W hW => ?_) ?_; rotate_left; (go_simp; with_reducible rfl); simp only [Act.put, List.setIfInBounds_toArray, List.set_cons_zero, List.set_cons_succ])
        refine PlanS.call rfl (by rfl) (fun K hK => ?_)
        go_simp
        refine hK.out _ _ (hS3.setCell (by exact Nat.le_refl _) _) ?_
        clear hK K
        refine PlanS.end' ?_
        go_wp2_with fail
        go_roundw
        case rel => exact ⟨i + 1, va', vc', (xn : Int) + 1, by omega, by go_num, by omega, HKN, Lib.hid (by rw [HLL.out]; exact ownsRow_setCell hown (by exact Nat.lt_succ_self _) _), Lib.hid (kg.set 0 _), Lib.hid (hB3.setCell (by show w.heap.size + 2 ≤ w1.heap.size; omega) _), by simp at hz3 ⊢; omega⟩
        case measure => simp [intOf]; omega
      · refine wpOp_planS rfl (by rfl) (fun K hK => ?_)
        go_simp
        refine hK.out _ _ (((Below.refl w1.heap.size wr).alloc (by omega) (.cells #[.string tag, .int .i64 tx, .int .i64 ty, .int .i64 gl, .int .i64 gh, .int .i64 cr] 62)).drew.drew) ?_
        clear hK K
        refine PlanS.call rfl (by rfl) (fun K hK => ?_)
        go_simp
        refine hK.out _ _ (((Below.refl w1.heap.size wr).alloc (by omega) (.cells #[.string tag, .int .i64 tx, .int .i64 ty, .int .i64 gl, .int .i64 gh, .int .i64 cr] 62)).drew.drew) ?_
        clear hK K
        refine PlanS.call rfl (by rfl) (fun K hK => ?_)
        have bN := (Box.new wr #[.string tag, .int .i64 tx, .int .i64 ty, .int .i64 gl, .int .i64 gh, .int .i64 cr] 62).drew.drew
        have hO1 := (HR.out.alloc (.cells #[.string tag, .int .i64 tx, .int .i64 ty, .int .i64 gl, .int .i64 gh, .int .i64 cr] 62)).drew.drew
        refine wp_append_own _ (.tmp 56) (.tmp 65) 25 rfl (w1.heap.size + 1) 62 i0 z6 6 56 Tryd.underlying25 hi0 hz0 hz1 hz2 hzs (by decide) (.slice va i vc) i (treeCells (leftL ts (l.take i))) rfl hO1 ⟨wr.heap.size, 0, none⟩ 1 1 [.string tag, .int .i64 tx, .int .i64 ty, .int .i64 gl, .int .i64 gh, .int .i64 cr] rfl (by rfl) (fun j x hx => by rw [Addr.add_lit, Nat.zero_add, bN.cell]; simpa using hx) (by simp [Value.oneCell']) (by unfold maxLen; omega) (by omega) (by simp; omega) ?_
        intro v' w3 hown hgrow _
        obtain ⟨va', vc', rfl⟩ := row_form hown
        have hS3 : Below w1.heap.size wr w3 := (((Below.refl w1.heap.size wr).alloc (by omega) (.cells #[.string tag, .int .i64 tx, .int .i64 ty, .int .i64 gl, .int .i64 gh, .int .i64 cr] 62)).drew.drew).grown hgrow (by simp; omega) (fun j ej => by have := row_ge hO1 j ej; omega)
        refine hK.out _ _ hS3 ?_
        clear hK K
        have kg := ((HK.out.alloc (.cells #[.string tag, .int .i64 tx, .int .i64 ty, .int .i64 gl, .int .i64 gh, .int .i64 cr] 62)).drew.drew).grown hgrow hO1 (by omega)
        have k1 : w3.cell? ⟨w1.heap.size, 0, none⟩ = some (.slice va i vc) := kg.cell 0
        have fq : w3.frozen? ⟨w1.heap.size, 0, none⟩ = false := kg.free 0
        have hB3 := ((HB.out.alloc (by omega) (.cells #[.string tag, .int .i64 tx, .int .i64 ty, .int .i64 gl, .int .i64 gh, .int .i64 cr] 62)).drew.drew).grown hgrow (by simp; omega) (fun j ej => by have := row_ge hO1 j ej; omega)
        have hz3 := hgrow.size
        (refine PlanS.free (v := ?_) rfl (by rfl) (fun W hW => ?_) ?_; rotate_left; (go_simp; with_reducible rfl); simp only [Act.put, List.setIfInBounds_toArray, List.set_cons_zero, List.set_cons_succ])
        refine PlanS.call rfl (by rfl) (fun K hK => ?_)
        go_simp
        refine hK.out _ _ (hS3.setCell (by exact Nat.le_refl _) _) ?_
        clear hK K
        refine PlanS.end' ?_
        go_wp2_with fail
        go_roundw
        case rel => exact ⟨i + 1, va', vc', (xn : Int) + 1, by omega, by go_num, by omega, HKN, Lib.hid (by rw [HLL.out]; exact ownsRow_setCell hown (by exact Nat.lt_succ_self _) _), Lib.hid (kg.set 0 _), Lib.hid (hB3.setCell (by show w.heap.size + 2 ≤ w1.heap.size; omega) _), by simp at hz3 ⊢; omega⟩
        case measure => simp [intOf]; omega
    · have hpv := HKP.out.prev h0
      have c0 : wr.cell? ⟨kb, koff + (i - 1), none⟩ = some (.int .i64 (least - 1)) := hKC'.out wr HB.out (i - 1) _ hpv
      have hg : (0 : Int) < (i : Int) := by omega
      have hg3 : 0 < i := h0
      have hg2 : 1 ≤ (i : Int) := by omega
      have hin1 : ((i : Int) - 1).toNat = i - 1 := by omega
      have hlt1 : (i : Int) - 1 < (l.length : Int) := by omega
      have hwi : IntKind.i64.wrap ((i : Int) - 1) = (i : Int) - 1 := by rw [IntKind.wrap_i64]; omega
      clear hLST hpv
      by_cases hge : least ≤ (xn : Int)
      case neg =>
        have HE : Hid (leftE ⟨ts, lo, hi, pr, ne⟩ l = 12) := Lib.hid (by rw [HLE.out, kept_bad HKP.out HXI.out (.inr (by omega))])
        have hcmp : decide ((xn : Int) ≤ least - 1) = true := by rw [decide_eq_true_iff]; omega
        clear hge hf hxr
        go_wp2_with fail
        refine region_seq (fun W => ∀ p, W.cell? p = wr.cell? p) [(0, true), (1, true), (2, true), (3, true), (4, true), (5, true), (6, true), (7, true), (8, false), (9, true), (10, true), (11, true), (12, true), (13, true), (14, true), (15, true), (16, true), (17, true), (18, true), (19, true), (20, true), (21, true), (22, true), (23, true), (24, true), (25, true)]
          (by kernel_rfl) (by kernel_rfl) (by kernel_rfl) (by simp) (fun _ _ _ _ h => h) (fun _ => rfl) ?_
        iterate 8 (refine SeqW.take (v := ?_) rfl (by rfl) (fun W hW => ?_) ?_; rotate_left; (go_simp; with_reducible rfl); simp only [Act.put, List.setIfInBounds_toArray, List.set_cons_zero, List.set_cons_succ])
        refine SeqW.call rfl (by rfl) (fun K hK => ?_)
        go_simp
        refine (refIn_any _ _ _ _).mono ?_
        rw [HIN.out]
        rintro e w' ⟨rfl, rfl⟩
        go_simp
        refine hK.out _ _ (fun _ => rfl) ?_
        clear hK K
        iterate 2 (refine SeqW.take (v := ?_) rfl (by rfl) (fun W hW => ?_) ?_; rotate_left; (go_simp; with_reducible rfl); simp only [Act.put, List.setIfInBounds_toArray, List.set_cons_zero, List.set_cons_succ])
        iterate 15 (refine SeqW.take (v := ?_) rfl (by rfl) (fun W hW => ?_) ?_; rotate_left; (go_simp; with_reducible rfl); simp only [Act.put, List.setIfInBounds_toArray, List.set_cons_zero, List.set_cons_succ])
        refine SeqW.done ?_
        go_wp2_with fail
        have bR := put5.box HD.out (.slice none 0 0) (.int .i64 0) (.int .i64 0) (.int .i64 0) (.int .i64 0)
        have r0 := bR.cell 0; have r1 := bR.cell 1; have r2 := bR.cell 2; have r3 := bR.cell 3; have r4 := bR.cell 4
        simp [put5] at r0 r1 r2 r3 r4
        exact bodyPost_ret (v := .tuple #[.agg #[.slice none 0 0, .int .i64 0, .int .i64 0, .int .i64 0, .int .i64 0], .int .i64 12]) (by simp [results, Tryd.results34, go_sem, r0, r1, r2, r3, r4]) rfl (leftQ_err HE.out (by decide) (put5.below (HX.out _ HB.out).2.2.2.2.2 (Nat.le_succ _) _ _ _ _ _).drew)
      have HKN := Lib.hid (kept_next HKP.out HXI.out hf hge)
      have hcmp : decide ((xn : Int) ≤ least - 1) = false := by rw [decide_eq_false_iff_not]; omega
      obtain ⟨u, hu⟩ : ∃ u, ts[xn]? = some u := ⟨_, List.getElem?_eq_getElem hxn⟩
      obtain ⟨b, off, rfl, hbl, hTA⟩ := HTW.out.resolve_left (fun h => by subst h; simp at hxn)
      obtain ⟨f0, f1, f2, f3, f4, f5⟩ := hTA wr HB.out xn u hu
      have HLL : Hid (treeCells (leftL ts (l.take (i + 1))) = treeCells (leftL ts (l.take i)) ++ [.string u.tag, .int .i64 u.x, .int .i64 u.y, .int .i64 u.gl, .int .i64 u.gh, .int .i64 u.cr]) := Lib.hid (by
        rw [List.take_add_one, HXI.out]
        have e : leftL ts (l.take i ++ [(xn : Int)]) = leftL ts (l.take i) ++ [u] := by unfold leftL; rw [List.filterMap_append]; simp [hu]
        rw [show l.take i ++ (some (xn : Int)).toList = l.take i ++ [(xn : Int)] from rfl, e, treeCells_snoc])
      obtain ⟨tag, tx, ty, gl, gh, cr⟩ := u
      dsimp only at f0 f1 f2 f3 f4 f5
      clear hTA hu
      have hin2 : i + 1 ≤ ts.length := by omega
      clear hf hxr hge
      go_wp2_with fail
      refine region_seq (fun W => ∀ p, W.cell? p = wr.cell? p) [(0, true), (1, true), (2, true), (3, true), (4, true), (5, true), (6, true), (7, true), (8, false), (9, true), (10, true), (11, true), (12, true), (13, true), (14, true), (15, true), (16, true), (17, true), (18, true), (19, true), (20, true), (21, true), (22, true), (23, true), (24, true), (25, true)]
        (by kernel_rfl) (by kernel_rfl) (by kernel_rfl) (by simp) (fun _ _ _ _ h => h) (fun _ => rfl) ?_
      iterate 8 (refine SeqW.take (v := ?_) rfl (by rfl) (fun W hW => ?_) ?_; rotate_left; (go_simp; with_reducible rfl); simp only [Act.put, List.setIfInBounds_toArray, List.set_cons_zero, List.set_cons_succ])
      refine SeqW.call rfl (by rfl) (fun K hK => ?_)
      go_simp
      refine (refIn_any _ _ _ _).mono ?_
      rw [HIN.out]
      rintro e w' ⟨rfl, rfl⟩
      go_simp
      refine hK.out _ _ (fun _ => rfl) ?_
      clear hK K
      iterate 2 (refine SeqW.take (v := ?_) rfl (by rfl) (fun W hW => ?_) ?_; rotate_left; (go_simp; with_reducible rfl); simp only [Act.put, List.setIfInBounds_toArray, List.set_cons_zero, List.set_cons_succ])
      iterate 15 (refine SeqW.take (v := ?_) rfl (by rfl) (fun W hW => ?_) ?_; rotate_left; (go_simp; with_reducible rfl); simp only [Act.put, List.setIfInBounds_toArray, List.set_cons_zero, List.set_cons_succ])
      refine SeqW.done ?_
      go_wp2_with fail
      have hSd : Below w1.heap.size wr wr.drew.drew := (Below.refl _ _).drew.drew
      refine region_planS (fun W => Below w1.heap.size wr W) (.take 0 (.take 2 (.take 3 (.take 4 (.take 5 (.take 6 (.take 7 (.take 8 (.take 9 (.two 1 10 (.one 10 (.one 11 (.take 12 (.one 13 .done)))) (.one 1 (.one 11 (.take 12 (.one 13 .done))))))))))))))
        (by kernel_rfl) (by kernel_rfl) (by kernel_rfl) (by simp [Plan.depth]) (fun _ _ _ _ h => h) hSd ?_
      (refine PlanS.free (v := ?_) rfl (by rfl) (fun W hW => ?_) ?_; rotate_left; (have l0 := (hW.cell (p := ⟨w.heap.size, 0, none⟩) (by show w.heap.size < w1.heap.size; omega)).trans s0; have l1 := (hW.cell (p := ⟨kb, koff + i, none⟩) (by show kb < w1.heap.size; omega)).trans c1; have l2 := (hW.cell (p := ⟨b, off + xn * 6, none⟩) (by show b < w1.heap.size; omega)).trans f0; have l3 := (hW.cell (p := ⟨b, off + xn * 6 + 1, none⟩) (by show b < w1.heap.size; omega)).trans f1; have l4 := (hW.cell (p := ⟨b, off + xn * 6 + 2, none⟩) (by show b < w1.heap.size; omega)).trans f2; have l5 := (hW.cell (p := ⟨b, off + xn * 6 + 3, none⟩) (by show b < w1.heap.size; omega)).trans f3; have l6 := (hW.cell (p := ⟨b, off + xn * 6 + 4, none⟩) (by show b < w1.heap.size; omega)).trans f4; have l7 := (hW.cell (p := ⟨b, off + xn * 6 + 5, none⟩) (by show b < w1.heap.size; omega)).trans f5; clear hW; go_simp; with_reducible rfl); simp only [Act.put, List.setIfInBounds_toArray, List.set_cons_zero, List.set_cons_succ])
      (refine PlanS.free (v := ?_) rfl (by rfl) (fun W hW => ?_) ?_; rotate_left; (have l0 := (hW.cell (p := ⟨w.heap.size, 0, none⟩) (by show w.heap.size < w1.heap.size; omega)).trans s0; have l1 := (hW.cell (p := ⟨kb, koff + i, none⟩) (by show kb < w1.heap.size; omega)).trans c1; have l2 := (hW.cell (p := ⟨b, off + xn * 6, none⟩) (by show b < w1.heap.size; omega)).trans f0; have l3 := (hW.cell (p := ⟨b, off + xn * 6 + 1, none⟩) (by show b < w1.heap.size; omega)).trans f1; have l4 := (hW.cell (p := ⟨b, off + xn * 6 + 2, none⟩) (by show b < w1.heap.size; omega)).trans f2; have l5 := (hW.cell (p := ⟨b, off + xn * 6 + 3, none⟩) (by show b < w1.heap.size; omega)).trans f3; have l6 := (hW.cell (p := ⟨b, off + xn * 6 + 4, none⟩) (by show b < w1.heap.size; omega)).trans f4; have l7 := (hW.cell (p := ⟨b, off + xn * 6 + 5, none⟩) (by show b < w1.heap.size; omega)).trans f5; clear hW; go_simp; with_reducible rfl); simp only [Act.put, List.setIfInBounds_toArray, List.set_cons_zero, List.set_cons_succ])
      (refine PlanS.free (v := ?_) rfl (by rfl) (fun W hW => ?_) ?_; rotate_left; (have l0 := (hW.cell (p := ⟨w.heap.size, 0, none⟩) (by show w.heap.size < w1.heap.size; omega)).trans s0; have l1 := (hW.cell (p := ⟨kb, koff + i, none⟩) (by show kb < w1.heap.size; omega)).trans c1; have l2 := (hW.cell (p := ⟨b, off + xn * 6, none⟩) (by show b < w1.heap.size; omega)).trans f0; have l3 := (hW.cell (p := ⟨b, off + xn * 6 + 1, none⟩) (by show b < w1.heap.size; omega)).trans f1; have l4 := (hW.cell (p := ⟨b, off + xn * 6 + 2, none⟩) (by show b < w1.heap.size; omega)).trans f2; have l5 := (hW.cell (p := ⟨b, off + xn * 6 + 3, none⟩) (by show b < w1.heap.size; omega)).trans f3; have l6 := (hW.cell (p := ⟨b, off + xn * 6 + 4, none⟩) (by show b < w1.heap.size; omega)).trans f4; have l7 := (hW.cell (p := ⟨b, off + xn * 6 + 5, none⟩) (by show b < w1.heap.size; omega)).trans f5; clear hW; go_simp; with_reducible rfl); simp only [Act.put, List.setIfInBounds_toArray, List.set_cons_zero, List.set_cons_succ])
      (refine PlanS.free (v := ?_) rfl (by rfl) (fun W hW => ?_) ?_; rotate_left; (have l0 := (hW.cell (p := ⟨w.heap.size, 0, none⟩) (by show w.heap.size < w1.heap.size; omega)).trans s0; have l1 := (hW.cell (p := ⟨kb, koff + i, none⟩) (by show kb < w1.heap.size; omega)).trans c1; have l2 := (hW.cell (p := ⟨b, off + xn * 6, none⟩) (by show b < w1.heap.size; omega)).trans f0; have l3 := (hW.cell (p := ⟨b, off + xn * 6 + 1, none⟩) (by show b < w1.heap.size; omega)).trans f1; have l4 := (hW.cell (p := ⟨b, off + xn * 6 + 2, none⟩) (by show b < w1.heap.size; omega)).trans f2; have l5 := (hW.cell (p := ⟨b, off + xn * 6 + 3, none⟩) (by show b < w1.heap.size; omega)).trans f3; have l6 := (hW.cell (p := ⟨b, off + xn * 6 + 4, none⟩) (by show b < w1.heap.size; omega)).trans f4; have l7 := (hW.cell (p := ⟨b, off + xn * 6 + 5, none⟩) (by show b < w1.heap.size; omega)).trans f5; clear hW; go_simp; with_reducible rfl); simp only [Act.put, List.setIfInBounds_toArray, List.set_cons_zero, List.set_cons_succ])
      (refine PlanS.free (v := ?_) rfl (by rfl) (fun W hW => ?_) ?_; rotate_left; (have l0 := (hW.cell (p := ⟨w.heap.size, 0, none⟩) (by show w.heap.size < w1.heap.size; omega)).trans s0; have l1 := (hW.cell (p := ⟨kb, koff + i, none⟩) (by show kb < w1.heap.size; omega)).trans c1; have l2 := (hW.cell (p := ⟨b, off + xn * 6, none⟩) (by show b < w1.heap.size; omega)).trans f0; have l3 := (hW.cell (p := ⟨b, off + xn * 6 + 1, none⟩) (by show b < w1.heap.size; omega)).trans f1; have l4 := (hW.cell (p := ⟨b, off + xn * 6 + 2, none⟩) (by show b < w1.heap.size; omega)).trans f2; have l5 := (hW.cell (p := ⟨b, off + xn * 6 + 3, none⟩) (by show b < w1.heap.size; omega)).trans f3; have l6 := (hW.cell (p := ⟨b, off + xn * 6 + 4, none⟩) (by show b < w1.heap.size; omega)).trans f4; have l7 := (hW.cell (p := ⟨b, off + xn * 6 + 5, none⟩) (by show b < w1.heap.size; omega)).trans f5; clear hW; go_simp; with_reducible rfl); simp only [Act.put, List.setIfInBounds_toArray, List.set_cons_zero, List.set_cons_succ])
      (refine PlanS.free (v := ?_) rfl (by rfl) (fun W hW => ?_) ?_; rotate_left; (have l0 := (hW.cell (p := ⟨w.heap.size, 0, none⟩) (by show w.heap.size < w1.heap.size; omega)).trans s0; have l1 := (hW.cell (p := ⟨kb, koff + i, none⟩) (by show kb < w1.heap.size; omega)).trans c1; have l2 := (hW.cell (p := ⟨b, off + xn * 6, none⟩) (by show b < w1.heap.size; omega)).trans f0; have l3 := (hW.cell (p := ⟨b, off + xn * 6 + 1, none⟩) (by show b < w1.heap.size; omega)).trans f1; have l4 := (hW.cell (p := ⟨b, off + xn * 6 + 2, none⟩) (by show b < w1.heap.size; omega)).trans f2; have l5 := (hW.cell (p := ⟨b, off + xn * 6 + 3, none⟩) (by show b < w1.heap.size; omega)).trans f3; have l6 := (hW.cell (p := ⟨b, off + xn * 6 + 4, none⟩) (by show b < w1.heap.size; omega)).trans f4; have l7 := (hW.cell (p := ⟨b, off + xn * 6 + 5, none⟩) (by show b < w1.heap.size; omega)).trans f5; clear hW; go_simp; with_reducible rfl); simp only [Act.put, List.setIfInBounds_toArray, List.set_cons_zero, List.set_cons_succ])
      (refine PlanS.free (v := ?_) rfl (by rfl) (fun W hW => ?_) ?_; rotate_left; (have l0 := (hW.cell (p := ⟨w.heap.size, 0, none⟩) (by show w.heap.size < w1.heap.size; omega)).trans s0; have l1 := (hW.cell (p := ⟨kb, koff + i, none⟩) (by show kb < w1.heap.size; omega)).trans c1; have l2 := (hW.cell (p := ⟨b, off + xn * 6, none⟩) (by show b < w1.heap.size; omega)).trans f0; have l3 := (hW.cell (p := ⟨b, off + xn * 6 + 1, none⟩) (by show b < w1.heap.size; omega)).trans f1; have l4 := (hW.cell (p := ⟨b, off + xn * 6 + 2, none⟩) (by show b < w1.heap.size; omega)).trans f2; have l5 := (hW.cell (p := ⟨b, off + xn * 6 + 3, none⟩) (by show b < w1.heap.size; omega)).trans f3; have l6 := (hW.cell (p := ⟨b, off + xn * 6 + 4, none⟩) (by show b < w1.heap.size; omega)).trans f4; have l7 := (hW.cell (p := ⟨b, off + xn * 6 + 5, none⟩) (by show b < w1.heap.size; omega)).trans f5; clear hW; go_simp; with_reducible rfl); simp only [Act.put, List.setIfInBounds_toArray, List.set_cons_zero, List.set_cons_succ])
      (refine PlanS.free (v := ?_) rfl (by rfl) (fun W hW => ?_) ?_; rotate_left; (have l0 := (hW.cell (p := ⟨w.heap.size, 0, none⟩) (by show w.heap.size < w1.heap.size; omega)).trans s0; have l1 := (hW.cell (p := ⟨kb, koff + i, none⟩) (by show kb < w1.heap.size; omega)).trans c1; have l2 := (hW.cell (p := ⟨b, off + xn * 6, none⟩) (by show b < w1.heap.size; omega)).trans f0; have l3 := (hW.cell (p := ⟨b, off + xn * 6 + 1, none⟩) (by show b < w1.heap.size; omega)).trans f1; have l4 := (hW.cell (p := ⟨b, off + xn * 6 + 2, none⟩) (by show b < w1.heap.size; omega)).trans f2; have l5 := (hW.cell (p := ⟨b, off + xn * 6 + 3, none⟩) (by show b < w1.heap.size; omega)).trans f3; have l6 := (hW.cell (p := ⟨b, off + xn * 6 + 4, none⟩) (by show b < w1.heap.size; omega)).trans f4; have l7 := (hW.cell (p := ⟨b, off + xn * 6 + 5, none⟩) (by show b < w1.heap.size; omega)).trans f5; clear hW; go_simp; with_reducible rfl); simp only [Act.put, List.setIfInBounds_toArray, List.set_cons_zero, List.set_cons_succ])
      (refine PlanS.free (v := ?_) rfl (by rfl) (fun W hW => ?_) ?_; rotate_left; (have l0 := (hW.cell (p := ⟨w.heap.size, 0, none⟩) (by show w.heap.size < w1.heap.size; omega)).trans s0; have l1 := (hW.cell (p := ⟨kb, koff + i, none⟩) (by show kb < w1.heap.size; omega)).trans c1; have l2 := (hW.cell (p := ⟨b, off + xn * 6, none⟩) (by show b < w1.heap.size; omega)).trans f0; have l3 := (hW.cell (p := ⟨b, off + xn * 6 + 1, none⟩) (by show b < w1.heap.size; omega)).trans f1; have l4 := (hW.cell (p := ⟨b, off + xn * 6 + 2, none⟩) (by show b < w1.heap.size; omega)).trans f2; have l5 := (hW.cell (p := ⟨b, off + xn * 6 + 3, none⟩) (by show b < w1.heap.size; omega)).trans f3; have l6 := (hW.cell (p := ⟨b, off + xn * 6 + 4, none⟩) (by show b < w1.heap.size; omega)).trans f4; have l7 := (hW.cell (p := ⟨b, off + xn * 6 + 5, none⟩) (by show b < w1.heap.size; omega)).trans f5; clear hW; go_simp; with_reducible rfl); simp only [Act.put, List.setIfInBounds_toArray, List.set_cons_zero, List.set_cons_succ])
      have k0 : wr.cell? ⟨w1.heap.size, 0, none⟩ = some (.slice va i vc) := HK.out.cell 0
      have k0' : (wr.alloc (.cells #[.string tag, .int .i64 tx, .int .i64 ty, .int .i64 gl, .int .i64 gh, .int .i64 cr] 62)).cell? ⟨w1.heap.size, 0, none⟩ = some (.slice va i vc) := (HK.out.alloc _).cell 0
      refine And.intro ?_ ?_
      · refine wpOp_planS rfl (by rfl) (fun K hK => ?_)
        go_simp
        refine hK.out _ _ hSd ?_
        clear hK K
        refine PlanS.call rfl (by rfl) (fun K hK => ?_)
        go_simp
        refine hK.out _ _ (((Below.refl w1.heap.size wr).alloc (by omega) (.cells #[.string tag, .int .i64 tx, .int .i64 ty, .int .i64 gl, .int .i64 gh, .int .i64 cr] 62)).drew.drew) ?_
        clear hK K
        refine PlanS.call rfl (by rfl) (fun K hK => ?_)
        have bN := (Box.new wr #[.string tag, .int .i64 tx, .int .i64 ty, .int .i64 gl, .int .i64 gh, .int .i64 cr] 62).drew.drew
        have hO1 := (HR.out.alloc (.cells #[.string tag, .int .i64 tx, .int .i64 ty, .int .i64 gl, .int .i64 gh, .int .i64 cr] 62)).drew.drew
        refine wp_append_own _ (.tmp 56) (.tmp 65) 25 rfl (w1.heap.size + 1) 62 i0 z6 6 56 Tryd.underlying25 hi0 hz0 hz1 hz2 hzs (by decide) (.slice va i vc) i (treeCells (leftL ts (l.take i))) rfl hO1 ⟨wr.heap.size, 0, none⟩ 1 1 [.string tag, .int .i64 tx, .int .i64 ty, .int .i64 gl, .int .i64 gh, .int .i64 cr] rfl (by rfl) (fun j x hx => by rw [Addr.add_lit, Nat.zero_add, bN.cell]; simpa using hx) (by simp [Value.oneCell']) (by unfold maxLen; omega) (by omega) (by simp; omega) ?_
        intro v' w3 hown hgrow _
        obtain ⟨va', vc', rfl⟩ := row_form hown
        have hS3 : Below w1.heap.size wr w3 := (((Below.refl w1.heap.size wr).alloc (by omega) (.cells #[.string tag, .int .i64 tx, .int .i64 ty, .int .i64 gl, .int .i64 gh, .int .i64 cr] 62)).drew.drew).grown hgrow (by simp; omega) (fun j ej => by have := row_ge hO1 j ej; omega)
        refine hK.out _ _ hS3 ?_
        clear hK K
        have kg := ((HK.out.alloc (.cells #[.string tag, .int .i64 tx, .int .i64 ty, .int .i64 gl, .int .i64 gh, .int .i64 cr] 62)).drew.drew).grown hgrow hO1 (by omega)
        have k1 : w3.cell? ⟨w1.heap.size, 0, none⟩ = some (.slice va i vc) := kg.cell 0
        have fq : w3.frozen? ⟨w1.heap.size, 0, none⟩ = false := kg.free 0
        have hB3 := ((HB.out.alloc (by omega) (.cells #[.string tag, .int .i64 tx, .int .i64 ty, .int .i64 gl, .int .i64 gh, .int .i64 cr] 62)).drew.drew).grown hgrow (by simp; omega) (fun j ej => by have := row_ge hO1 j ej; omega)
        have hz3 := hgrow.size
        (refine PlanS.free (v := ?_) rfl (by rfl) (fun W hW => ?_) ?_; rotate_left; (go_simp; with_reducible rfl); simp only [Act.put, List.setIfInBounds_toArray, List.set_cons_zero, List.set_cons_succ])
        refine PlanS.call rfl (by rfl) (fun K hK => ?_)
        go_simp
        refine hK.out _ _ (hS3.setCell (by exact Nat.le_refl _) _) ?_
        clear hK K
        refine PlanS.end' ?_
        go_wp2_with fail
        go_roundw
        case rel => exact ⟨i + 1, va', vc', (xn : Int) + 1, by omega, by go_num, by omega, HKN, Lib.hid (by rw [HLL.out]; exact ownsRow_setCell hown (by exact Nat.lt_succ_self _) _), Lib.hid (kg.set 0 _), Lib.hid (hB3.setCell (by show w.heap.size + 2 ≤ w1.heap.size; omega) _), by simp at hz3 ⊢; omega⟩
        case measure => simp [intOf]; omega
      · refine wpOp_planS rfl (by rfl) (fun K hK => ?_)
        go_simp
        refine hK.out _ _ (((Below.refl w1.heap.size wr).alloc (by omega) (.cells #[.string tag, .int .i64 tx, .int .i64 ty, .int .i64 gl, .int .i64 gh, .int .i64 cr] 62)).drew.drew) ?_
        clear hK K
        refine PlanS.call rfl (by rfl) (fun K hK => ?_)
        go_simp
        refine hK.out _ _ (((Below.refl w1.heap.size wr).alloc (by omega) (.cells #[.string tag, .int .i64 tx, .int .i64 ty, .int .i64 gl, .int .i64 gh, .int .i64 cr] 62)).drew.drew) ?_
        clear hK K
        refine PlanS.call rfl (by rfl) (fun K hK => ?_)
        have bN := (Box.new wr #[.string tag, .int .i64 tx, .int .i64 ty, .int .i64 gl, .int .i64 gh, .int .i64 cr] 62).drew.drew
        have hO1 := (HR.out.alloc (.cells #[.string tag, .int .i64 tx, .int .i64 ty, .int .i64 gl, .int .i64 gh, .int .i64 cr] 62)).drew.drew
        refine wp_append_own _ (.tmp 56) (.tmp 65) 25 rfl (w1.heap.size + 1) 62 i0 z6 6 56 Tryd.underlying25 hi0 hz0 hz1 hz2 hzs (by decide) (.slice va i vc) i (treeCells (leftL ts (l.take i))) rfl hO1 ⟨wr.heap.size, 0, none⟩ 1 1 [.string tag, .int .i64 tx, .int .i64 ty, .int .i64 gl, .int .i64 gh, .int .i64 cr] rfl (by rfl) (fun j x hx => by rw [Addr.add_lit, Nat.zero_add, bN.cell]; simpa using hx) (by simp [Value.oneCell']) (by unfold maxLen; omega) (by omega) (by simp; omega) ?_
        intro v' w3 hown hgrow _
        obtain ⟨va', vc', rfl⟩ := row_form hown
        have hS3 : Below w1.heap.size wr w3 := (((Below.refl w1.heap.size wr).alloc (by omega) (.cells #[.string tag, .int .i64 tx, .int .i64 ty, .int .i64 gl, .int .i64 gh, .int .i64 cr] 62)).drew.drew).grown hgrow (by simp; omega) (fun j ej => by have := row_ge hO1 j ej; omega)
        refine hK.out _ _ hS3 ?_
        clear hK K
        have kg := ((HK.out.alloc (.cells #[.string tag, .int .i64 tx, .int .i64 ty, .int .i64 gl, .int .i64 gh, .int .i64 cr] 62)).drew.drew).grown hgrow hO1 (by omega)
        have k1 : w3.cell? ⟨w1.heap.size, 0, none⟩ = some (.slice va i vc) := kg.cell 0
        have fq : w3.frozen? ⟨w1.heap.size, 0, none⟩ = false := kg.free 0
        have hB3 := ((HB.out.alloc (by omega) (.cells #[.string tag, .int .i64 tx, .int .i64 ty, .int .i64 gl, .int .i64 gh, .int .i64 cr] 62)).drew.drew).grown hgrow (by simp; omega) (fun j ej => by have := row_ge hO1 j ej; omega)
        have hz3 := hgrow.size
        (refine PlanS.free (v := ?_) rfl (by rfl) (fun W hW => ?_) ?_; rotate_left; (go_simp; with_reducible rfl); simp only [Act.put, List.setIfInBounds_toArray, List.set_cons_zero, List.set_cons_succ])
        refine PlanS.call rfl (by rfl) (fun K hK => ?_)
        go_simp
        refine hK.out _ _ (hS3.setCell (by exact Nat.le_refl _) _) ?_
        clear hK K
        refine PlanS.end' ?_
        go_wp2_with fail
        go_roundw
        case rel => exact ⟨i + 1, va', vc', (xn : Int) + 1, by omega, by go_num, by omega, HKN, Lib.hid (by rw [HLL.out]; exact ownsRow_setCell hown (by exact Nat.lt_succ_self _) _), Lib.hid (kg.set 0 _), Lib.hid (hB3.setCell (by show w.heap.size + 2 ≤ w1.heap.size; omega) _), by simp at hz3 ⊢; omega⟩
        case measure => simp [intOf]; omega
end Go.Proofs.YtpkjjiieglebbaaDoor
