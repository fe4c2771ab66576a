/- Contracts of the reference's Print and Parse. Conditions: the trees lie in memory as the model says. -/
import Derived.Test.YtpkjjiieglebbaaDoorRT
namespace Go.Proofs.YtpkjjiieglebbaaDoor
open Go Go.RowKit
/-- A text is the one of a stand if and only if the stand that is read loosely is valid and has just this text. -/
theorem parse_loose (s : ByteArray) : parseS s = if 65536 < s.size then (⟨[], 0, 0, 0, 0⟩, 3) else if checkE (looseS s.data.toList) = 0 ∧ printL (looseS s.data.toList) = s.data.toList then (looseS s.data.toList, 0) else (⟨[], 0, 0, 0, 0⟩, 5) := by
  unfold parseS
  by_cases h1 : 65536 < s.size
  · rw [if_pos h1, if_pos h1]
  rw [if_neg h1, if_neg h1]
  by_cases h2 : checkE (looseS s.data.toList) = 0 ∧ printL (looseS s.data.toList) = s.data.toList
  · rw [if_pos h2]
    have hv : standB (looseS s.data.toList) = true := (valid_of h2.1).1
    have := read_print hv
    rw [h2.2] at this
    rw [this]
    dsimp only
    rw [if_pos hv]
  · rw [if_neg h2]
    rcases h3 : readL s.data.toList with _ | S
    · rfl
    · dsimp only
      by_cases h4 : standB S = true
      · exfalso
        have e := print_read h3
        have el := loose_print h4
        rw [← e] at el
        apply h2
        rw [el]
        exact ⟨by unfold checkE; rw [if_pos h4], e.symm⟩
      · rw [if_neg h4]
set_option maxRecDepth 100000 in
set_option maxHeartbeats 1000000 in
theorem refPrint_any (a : Option Addr) (n c : Nat) (ts : List Tree) (lo hi pr ne : Int) (w : World) (hT : Trees w a n c ts) :
    Calls Tryd.prog 40 #[.agg #[.slice a n c, .int .i64 lo, .int .i64 hi, .int .i64 pr, .int .i64 ne]] w fun e w' =>
      e = .returned (.tuple #[.string (if checkE ⟨ts, lo, hi, pr, ne⟩ = 0 then ⟨(printL ⟨ts, lo, hi, pr, ne⟩).toArray⟩ else ⟨#[]⟩), .int .i64 (checkE ⟨ts, lo, hi, pr, ne⟩)]) ∧ Below w.heap.size w w' := by
  have hn := hT.len
  subst hn
  have HX : Hid (∀ W, Below (w.heap.size + 1) ((w.alloc (.cells #[.slice a ts.length c, .int .i64 lo, .int .i64 hi, .int .i64 pr, .int .i64 ne] 29))) W → Box W w.heap.size #[.slice a ts.length c, .int .i64 lo, .int .i64 hi, .int .i64 pr, .int .i64 ne] 29 ∧ Trees W a ts.length c ts ∧ Below w.heap.size w W ∧ w.heap.size + 1 ≤ W.heap.size) := Lib.hid fun W h => by
    have hB : Below w.heap.size w W := ((Below.refl _ _).alloc (Nat.le_refl _) _).trans (h.mono (by omega))
    exact ⟨(Box.new w _ _).below h (by omega), hT.below hB, hB, by have := h.size; simp at this; omega⟩
  clear hT
  obtain ⟨x, hx⟩ : ∃ x, checkE ⟨ts, lo, hi, pr, ne⟩ = x := ⟨_, rfl⟩
  have HCE := Lib.hid hx
  rw [hx]
  by_cases h0 : x = 0
  · subst h0
    rw [if_pos rfl]
    clear hx
    go_enter Tryd.func40, Tryd.ntmps40
    go_wp2_with fail
    refine (refCheck_any a ts.length c ts lo hi pr ne _ (HX.out _ (Below.refl _ _)).2.1).mono ?_
    rw [HCE.out]
    rintro e w1 ⟨rfl, hb1⟩
    have S1 : Below (w.heap.size + 1) (w.alloc (.cells #[.slice a ts.length c, .int .i64 lo, .int .i64 hi, .int .i64 pr, .int .i64 ne] 29)) w1 := hb1.mono (by simp)
    obtain ⟨X1, T1, B1, z1⟩ := HX.out _ S1
    have e0 : w1.cell? ⟨w.heap.size, 0, none⟩ = some (.slice a ts.length c) := X1.cell 0
    have e1 : w1.cell? ⟨w.heap.size, 1, none⟩ = some (.int .i64 lo) := X1.cell 1
    have e2 : w1.cell? ⟨w.heap.size, 2, none⟩ = some (.int .i64 hi) := X1.cell 2
    have e3 : w1.cell? ⟨w.heap.size, 3, none⟩ = some (.int .i64 pr) := X1.cell 3
    have e4 : w1.cell? ⟨w.heap.size, 4, none⟩ = some (.int .i64 ne) := X1.cell 4
    clear hb1 S1 X1
    go_wp2_with fail
    refine (refText_any a ts.length c ts lo hi pr ne _ T1 HCE.out).mono ?_
    rintro e w2 ⟨rfl, hb2⟩
    have HB := Lib.hid (B1.trans (hb2.mono B1.size))
    clear hb2 T1 e0 e1 e2 e3 e4
    go_wp2_with fail
    exact bodyPost_ret (v := .tuple #[.string ⟨(printL ⟨ts, lo, hi, pr, ne⟩).toArray⟩, .int .i64 0]) (by simp [results, Tryd.results40, go_sem]) rfl ⟨rfl, HB.out⟩
  · rw [if_neg h0]
    have hb : (x != 0) = true := by simpa using h0
    clear hx h0
    go_enter Tryd.func40, Tryd.ntmps40
    go_wp2_with fail
    refine (refCheck_any a ts.length c ts lo hi pr ne _ (HX.out _ (Below.refl _ _)).2.1).mono ?_
    rw [HCE.out]
    rintro e w1 ⟨rfl, hb1⟩
    have S1 : Below (w.heap.size + 1) (w.alloc (.cells #[.slice a ts.length c, .int .i64 lo, .int .i64 hi, .int .i64 pr, .int .i64 ne] 29)) w1 := hb1.mono (by simp)
    have B1 := (HX.out _ S1).2.2.1
    clear hb1 S1
    go_wp2_with fail
    exact bodyPost_ret (v := .tuple #[.string ⟨#[]⟩, .int .i64 x]) (by simp [results, Tryd.results40, go_sem]) rfl ⟨rfl, B1⟩
/-- What Parse owes. -/
def ParseQ (P : Stand × Int) (w : World) (e : Ending) (w' : World) : Prop := ∃ a c, e = .returned (.tuple #[.agg #[.slice a P.1.ts.length c, .int .i64 P.1.lo, .int .i64 P.1.hi, .int .i64 P.1.press, .int .i64 P.1.near], .int .i64 P.2]) ∧ Trees w' a P.1.ts.length c P.1.ts ∧ Below w.heap.size w w'
theorem texts_strs {w : World} {base n c : Nat} {a : Option Addr} {D : List (List UInt8)} (h : w.ownsRow base 9 1 (.slice a n c) n (strs D)) (hn : n = D.length) : TextsAt w a n (D.map fun l => ⟨l.toArray⟩) := by
  subst hn
  have e : strs D = (D.map fun l => (⟨l.toArray⟩ : ByteArray)).map Value.string := by simp [strs]
  rw [e] at h
  exact texts_of_row (l := D.map fun l => ⟨l.toArray⟩) (by rw [List.length_map]; exact h) (by rw [List.length_map])
set_option maxRecDepth 100000 in
set_option maxHeartbeats 4000000 in
theorem refParse_any (s : ByteArray) (w : World) :
    Calls Tryd.prog 42 #[.string s] w (ParseQ (parseS s) w) := by
  have hpl := parse_loose s
  by_cases h1 : 65536 < s.size
  · have HP : Hid (parseS s = (⟨[], 0, 0, 0, 0⟩, 3)) := Lib.hid (by rw [hpl, if_pos h1])
    have hb2 : decide (65536 < s.size) = true := by rw [decide_eq_true_iff]; exact h1
    have hb3 : decide ((65536 : Int) < (s.size : Int)) = true := by rw [decide_eq_true_iff]; omega
    clear h1 hpl
    go_enter Tryd.func42, Tryd.ntmps42
    go_wp2_with fail
    refine bodyPost_ret (v := .tuple #[.agg #[.slice none 0 0, .int .i64 0, .int .i64 0, .int .i64 0, .int .i64 0], .int .i64 3]) (by simp [results, Tryd.results42, go_sem]) rfl ?_
    unfold ParseQ
    rw [HP.out]
    exact ⟨none, 0, rfl, trees_nil _, by first | exact (Below.refl _ _).alloc (Nat.le_refl _) _ | skip⟩
  have hs : s.size ≤ 65536 := by omega
  rw [if_neg h1] at hpl
  obtain ⟨L, hL⟩ : ∃ L, splitL 10 s.data.toList = L := ⟨_, rfl⟩
  have hL1 : 1 ≤ L.length := by
    have := splitL_ne 10 s.data.toList
    rw [hL] at this
    exact List.length_pos_iff.2 this
  have hLl : L.length ≤ 65537 := by
    have := splitL_len 10 s.data.toList
    rw [hL, size_len] at this; omega
  have HLP : Hid (∀ x ∈ L, x.length ≤ 65536) := Lib.hid fun x hx => by
    have := splitL_part 10 s.data.toList x (by rw [hL]; exact hx)
    rw [size_len] at this; omega
  have HL := Lib.hid hL
  obtain ⟨l0, hl0⟩ : ∃ l0, L[0]? = some l0 := ⟨_, List.getElem?_eq_getElem (by omega)⟩
  obtain ⟨F, hF⟩ : ∃ F, splitL 32 l0 = F := ⟨_, rfl⟩
  have HF := Lib.hid hF
  have h0m := HLP.out l0 (List.mem_of_getElem? hl0)
  have hFl : F.length ≤ 65537 := by
    have := splitL_len 32 l0
    rw [hF] at this; omega
  have HFP : Hid (∀ x ∈ F, x.length ≤ 65536) := Lib.hid fun x hx => by
    have := splitL_part 32 l0 x (by rw [hF]; exact hx)
    omega
  obtain ⟨lo, hlo⟩ : ∃ v, looseV F 2 = v := ⟨_, rfl⟩
  obtain ⟨hi, hhi⟩ : ∃ v, looseV F 3 = v := ⟨_, rfl⟩
  obtain ⟨pr, hpr⟩ : ∃ v, looseV F 5 = v := ⟨_, rfl⟩
  obtain ⟨ne, hne⟩ : ∃ v, looseV F 7 = v := ⟨_, rfl⟩
  have HLO := Lib.hid hlo
  have HHI := Lib.hid hhi
  have HPR := Lib.hid hpr
  have HNE := Lib.hid hne
  obtain ⟨TS, hTS⟩ : ∃ TS, looseTs L = TS := ⟨_, rfl⟩
  have HTS := Lib.hid hTS
  have HFT : Hid (∀ t ∈ TS, t.tag.size ≤ maxLen) := Lib.hid fun t ht => by
    rw [← hTS] at ht
    unfold looseTs at ht
    obtain ⟨l, hl, rfl⟩ := List.mem_map.1 ht
    have hl2 := HLP.out l (List.mem_of_mem_drop (List.dropLast_subset _ hl))
    have : ((splitL 32 l)[1]?.getD []).length ≤ 65536 := by
      rcases h : (splitL 32 l)[1]? with _ | y
      · simp
      · have := splitL_part 32 l y (List.mem_of_getElem? h)
        show y.length ≤ 65536
        omega
    show ((splitL 32 l)[1]?.getD []).toArray.size ≤ maxLen
    rw [List.size_toArray]
    unfold maxLen; omega
  have hTl : TS.length = L.length - 2 := by rw [← hTS]; simp [looseTs]; omega
  have HTL := Lib.hid hTl
  have HLS : Hid (looseS s.data.toList = ⟨TS, lo, hi, pr, ne⟩) := Lib.hid (by
    unfold looseS firstL
    rw [hL]
    have e : L.headD [] = l0 := by rw [List.headD_eq_head?_getD, List.head?_eq_getElem?, hl0]; rfl
    rw [e, hF, hlo, hhi, hpr, hne, hTS])
  have h0s : (⟨l0.toArray⟩ : ByteArray).size ≤ 65536 := by
    show l0.toArray.size ≤ 65536
    simpa using h0m
  have hd1 : (s.size : Int) ≤ 65536 := by omega
  have HPL := Lib.hid hpl
  have HL0 := Lib.hid hl0
  have HX : Hid (∀ W, Below (w.heap.size + 1) (w.alloc (.cells #[.slice none 0 0, .int .i64 0, .int .i64 0, .int .i64 0, .int .i64 0] 29)) W → Box W w.heap.size #[.slice none 0 0, .int .i64 0, .int .i64 0, .int .i64 0, .int .i64 0] 29 ∧ Below w.heap.size w W ∧ w.heap.size + 1 ≤ W.heap.size) := Lib.hid fun W h => by
    have hB : Below w.heap.size w W := ((Below.refl _ _).alloc (Nat.le_refl _) _).trans (h.mono (by omega))
    exact ⟨(Box.new w _ _).below h (by omega), hB, by have := h.size; simp at this; omega⟩
  obtain ⟨i0, hi0, hzz⟩ := Option.map_eq_some_iff.1 infoTree
  simp only [Prod.mk.injEq, Option.map_eq_some_iff] at hzz
  obtain ⟨⟨z6, hz0, hzs⟩, hz1, hz2⟩ := hzz
  clear h1 hpl hL hF hlo hhi hpr hne hTS hTl h0m hl0
  go_enter Tryd.func42, Tryd.ntmps42
  go_wp2_with fail
  refine (refSplit_any s 10 10 rfl _ hs).mono ?_
  rw [HL.out]
  rintro e w1 ⟨la, lc, rfl, hr1, hb1⟩
  have S1 : Below (w.heap.size + 1) (w.alloc (.cells #[.slice none 0 0, .int .i64 0, .int .i64 0, .int .i64 0, .int .i64 0] 29)) w1 := hb1.mono (by simp)
  have X1 := texts_strs hr1 rfl
  obtain ⟨lb, loff, rfl, hlb, hlc⟩ := X1.2.resolve_left (fun h => by rw [List.map_eq_nil_iff] at h; subst h; simp at hL1)
  have c0 : w1.cell? ⟨lb, loff, none⟩ = some (.string ⟨l0.toArray⟩) := hlc 0 ⟨l0.toArray⟩ (by rw [List.getElem?_map, HL0.out]; rfl)
  have HLC : Hid (∀ W, Below w1.heap.size w1 W → ∀ (i : Nat) x, L[i]? = some x → W.cell? ⟨lb, loff + i, none⟩ = some (.string ⟨x.toArray⟩)) := Lib.hid fun W h i x hx => (h.cell (p := ⟨lb, loff + i, none⟩) hlb).trans (hlc i _ (by rw [List.getElem?_map, hx]; rfl))
  have HS1 := Lib.hid S1
  have hLp : (0 : Int) < (L.length : Int) := by omega
  clear hr1 hb1 S1 X1 hlc hlb
  go_wp2_with fail
  refine (refSplit_any ⟨l0.toArray⟩ 32 32 rfl _ h0s).mono ?_
  rw [show (⟨l0.toArray⟩ : ByteArray).data.toList = l0 from rfl, HF.out]
  rintro e w2 ⟨fa, fc, rfl, hr2, hb2⟩
  have HS2 := Lib.hid (HS1.out.trans (hb2.mono (HX.out _ HS1.out).2.2))
  have HB2 := Lib.hid hb2
  have HF2 := Lib.hid (texts_strs hr2 rfl)
  have HZ2 := Lib.hid (HX.out _ HS2.out).2.2
  clear hr2 hb2 c0
  go_wp2_with fail
  refine (refLoose_any fa F.length fc F 2 _ HF2.out (by omega) (by omega) HFP.out).mono ?_
  rw [HLO.out]
  rintro e w' ⟨rfl, rfl⟩
  go_wp2_with fail
  refine (refLoose_any fa F.length fc F 3 _ HF2.out (by omega) (by omega) HFP.out).mono ?_
  rw [HHI.out]
  rintro e w' ⟨rfl, rfl⟩
  go_wp2_with fail
  refine (refLoose_any fa F.length fc F 5 _ HF2.out (by omega) (by omega) HFP.out).mono ?_
  rw [HPR.out]
  rintro e w' ⟨rfl, rfl⟩
  go_wp2_with fail
  refine (refLoose_any fa F.length fc F 7 _ HF2.out (by omega) (by omega) HFP.out).mono ?_
  rw [HNE.out]
  rintro e w' ⟨rfl, rfl⟩
  go_wp2_with fail
  obtain ⟨M, hM⟩ : ∃ M, M = max 2 L.length := ⟨_, rfl⟩
  have HM := Lib.hid hM
  clear hM
  go_loopg [7] (M - 2) (fun g iv wr => ∃ (k : Nat) (va : Option Addr) (vc : Nat), k + 2 + g = M ∧ iv = .int .i64 ((k : Int) + 1) ∧ Hid (wr.ownsRow (w2.heap.size + 1) 62 6 (.slice va k vc) k (treeCells (TS.take k))) ∧ Hid (Box wr w2.heap.size #[.slice va k vc, .int .i64 lo, .int .i64 hi, .int .i64 pr, .int .i64 ne] 29) ∧ Hid (Below (w.heap.size + 1) (w.alloc (.cells #[.slice none 0 0, .int .i64 0, .int .i64 0, .int .i64 0, .int .i64 0] 29)) wr) ∧ Hid (Below w2.heap.size w2 wr) ∧ w2.heap.size + 1 ≤ wr.heap.size)
  case atStart => exact ⟨0, none, 0, by have := HM.out; omega, rfl, Lib.hid (World.ownsRow_nil _ _ _ _), Lib.hid (Box.new _ _ _), Lib.hid (HS2.out.alloc HZ2.out _), Lib.hid ((Below.refl _ _).alloc (Nat.le_refl _) _), by simp⟩
  case round =>
    obtain ⟨k, va, vc, hkg, rfl, HR, HK, HB, HD, hzw⟩ := hrel
    cases gk with
    | zero =>
      have hML := HM.out
      have hnlt : ¬ ((k : Int) + 1 + 1 < (L.length : Int)) := by omega
      have hnlt2 : (L.length : Int) ≤ (k : Int) + 1 + 1 := by omega
      have hnlt3 : decide ((k : Int) + 1 + 1 < (L.length : Int)) = false := by rw [decide_eq_false_iff_not]; omega
      have hub : (k : Int) ≤ 70000 := by omega
      have hkT : k = TS.length := by have := HTL.out; omega
      subst hkT
      clear hML
      have K1 := HK.out
      have D1 := (HX.out _ HB.out).1
      have k0 : wr.cell? ⟨w2.heap.size, 0, none⟩ = some (.slice va TS.length vc) := K1.cell 0
      have k1 : wr.cell? ⟨w2.heap.size, 1, none⟩ = some (.int .i64 lo) := K1.cell 1
      have k2 : wr.cell? ⟨w2.heap.size, 2, none⟩ = some (.int .i64 hi) := K1.cell 2
      have k3 : wr.cell? ⟨w2.heap.size, 3, none⟩ = some (.int .i64 pr) := K1.cell 3
      have k4 : wr.cell? ⟨w2.heap.size, 4, none⟩ = some (.int .i64 ne) := K1.cell 4
      have d0 : wr.cell? ⟨w.heap.size, 0, none⟩ = some (.slice none 0 0) := D1.cell 0
      have d1 : wr.cell? ⟨w.heap.size, 1, none⟩ = some (.int .i64 0) := D1.cell 1
      have d2 : wr.cell? ⟨w.heap.size, 2, none⟩ = some (.int .i64 0) := D1.cell 2
      have d3 : wr.cell? ⟨w.heap.size, 3, none⟩ = some (.int .i64 0) := D1.cell 3
      have d4 : wr.cell? ⟨w.heap.size, 4, none⟩ = some (.int .i64 0) := D1.cell 4
      have q0 : wr.frozen? ⟨w.heap.size, 0, none⟩ = false := D1.free 0
      have q1 : wr.frozen? ⟨w.heap.size, 1, none⟩ = false := D1.free 1
      have q2 : wr.frozen? ⟨w.heap.size, 2, none⟩ = false := D1.free 2
      have q3 : wr.frozen? ⟨w.heap.size, 3, none⟩ = false := D1.free 3
      have q4 : wr.frozen? ⟨w.heap.size, 4, none⟩ = false := D1.free 4
      have HTR := Lib.hid (trees_of_row (ts := TS) (by have := HR.out; rwa [List.take_length] at this) rfl HFT.out (by have := HTL.out; omega))
      clear K1 D1
      go_wp2_with fail
      refine (refCheck_any va TS.length vc TS lo hi pr ne _ HTR.out).mono ?_
      obtain ⟨x, hx⟩ : ∃ x, checkE ⟨TS, lo, hi, pr, ne⟩ = x := ⟨_, rfl⟩
      have HCE := Lib.hid hx
      rw [hx]
      rintro e w4 ⟨rfl, hb4⟩
      have HS4 := Lib.hid (HB.out.trans (hb4.mono (HX.out _ HB.out).2.2))
      have HK4 := Lib.hid (HK.out.below hb4 (by omega))
      have HT4 := Lib.hid (HTR.out.below hb4)
      have HR4 := Lib.hid (ownsRow_below HR.out hb4 (Nat.le_refl _))
      clear k0 k1 k2 k3 k4 d0 d1 d2 d3 d4 q0 q1 q2 q3 q4 hb4
      have Kw4 := HK4.out
      have Dw4 := (HX.out _ HS4.out).1
      have k0 : w4.cell? ⟨w2.heap.size, 0, none⟩ = some (.slice va TS.length vc) := Kw4.cell 0
      have k1 : w4.cell? ⟨w2.heap.size, 1, none⟩ = some (.int .i64 lo) := Kw4.cell 1
      have k2 : w4.cell? ⟨w2.heap.size, 2, none⟩ = some (.int .i64 hi) := Kw4.cell 2
      have k3 : w4.cell? ⟨w2.heap.size, 3, none⟩ = some (.int .i64 pr) := Kw4.cell 3
      have k4 : w4.cell? ⟨w2.heap.size, 4, none⟩ = some (.int .i64 ne) := Kw4.cell 4
      have d0 : w4.cell? ⟨w.heap.size, 0, none⟩ = some (.slice none 0 0) := Dw4.cell 0
      have d1 : w4.cell? ⟨w.heap.size, 1, none⟩ = some (.int .i64 0) := Dw4.cell 1
      have d2 : w4.cell? ⟨w.heap.size, 2, none⟩ = some (.int .i64 0) := Dw4.cell 2
      have d3 : w4.cell? ⟨w.heap.size, 3, none⟩ = some (.int .i64 0) := Dw4.cell 3
      have d4 : w4.cell? ⟨w.heap.size, 4, none⟩ = some (.int .i64 0) := Dw4.cell 4
      have q0 : w4.frozen? ⟨w.heap.size, 0, none⟩ = false := Dw4.free 0
      have q1 : w4.frozen? ⟨w.heap.size, 1, none⟩ = false := Dw4.free 1
      have q2 : w4.frozen? ⟨w.heap.size, 2, none⟩ = false := Dw4.free 2
      have q3 : w4.frozen? ⟨w.heap.size, 3, none⟩ = false := Dw4.free 3
      have q4 : w4.frozen? ⟨w.heap.size, 4, none⟩ = false := Dw4.free 4
      by_cases h0 : x = 0
      case neg =>
        have hb : (x != 0) = true := by simpa using h0
        have HP : Hid (parseS s = (⟨[], 0, 0, 0, 0⟩, 5)) := Lib.hid (by rw [HPL.out, if_neg]; rw [HLS.out, hx]; exact fun h => h0 h.1)
        have HDD := Lib.hid Dw4
        clear hx h0 Kw4 Dw4
        go_wp2_with fail
        have bR := put5.box HDD.out (.slice none 0 0) (.int .i64 0) (.int .i64 0) (.int .i64 0) (.int .i64 0)
        have r0 := bR.cell 0; have r1 := bR.cell 1; have r2 := bR.cell 2; have r3 := bR.cell 3; have r4 := bR.cell 4
        simp [put5] at r0 r1 r2 r3 r4
        refine bodyPost_ret (v := .tuple #[.agg #[.slice none 0 0, .int .i64 0, .int .i64 0, .int .i64 0, .int .i64 0], .int .i64 5]) (by simp [results, Tryd.results42, go_sem, r0, r1, r2, r3, r4]) rfl ?_
        unfold ParseQ
        rw [HP.out]
        exact ⟨none, 0, rfl, trees_nil _, put5.below (HX.out _ HS4.out).2.1 (Nat.le_refl _) _ _ _ _ _⟩
      subst h0
      clear hx Kw4 Dw4
      go_wp2_with fail
      refine (refText_any va TS.length vc TS lo hi pr ne _ HT4.out HCE.out).mono ?_
      obtain ⟨PT, hPT⟩ : ∃ p : ByteArray, p = ⟨(printL ⟨TS, lo, hi, pr, ne⟩).toArray⟩ := ⟨_, rfl⟩
      rw [← hPT]
      have HPT : Hid (PT.data.toList = printL ⟨TS, lo, hi, pr, ne⟩) := Lib.hid (by rw [hPT])
      clear hPT
      rintro e w5 ⟨rfl, hb5⟩
      have HS5 := Lib.hid (HS4.out.trans (hb5.mono (HX.out _ HS4.out).2.2))
      have HK5 := Lib.hid (HK4.out.below hb5 HK4.out.lt)
      have HT5 := Lib.hid (HT4.out.below hb5)
      have HR5 := Lib.hid (ownsRow_below HR4.out hb5 (Nat.le_refl _))
      clear k0 k1 k2 k3 k4 d0 d1 d2 d3 d4 q0 q1 q2 q3 q4 hb5
      have Kw5 := HK5.out
      have Dw5 := (HX.out _ HS5.out).1
      have k0 : w5.cell? ⟨w2.heap.size, 0, none⟩ = some (.slice va TS.length vc) := Kw5.cell 0
      have k1 : w5.cell? ⟨w2.heap.size, 1, none⟩ = some (.int .i64 lo) := Kw5.cell 1
      have k2 : w5.cell? ⟨w2.heap.size, 2, none⟩ = some (.int .i64 hi) := Kw5.cell 2
      have k3 : w5.cell? ⟨w2.heap.size, 3, none⟩ = some (.int .i64 pr) := Kw5.cell 3
      have k4 : w5.cell? ⟨w2.heap.size, 4, none⟩ = some (.int .i64 ne) := Kw5.cell 4
      have d0 : w5.cell? ⟨w.heap.size, 0, none⟩ = some (.slice none 0 0) := Dw5.cell 0
      have d1 : w5.cell? ⟨w.heap.size, 1, none⟩ = some (.int .i64 0) := Dw5.cell 1
      have d2 : w5.cell? ⟨w.heap.size, 2, none⟩ = some (.int .i64 0) := Dw5.cell 2
      have d3 : w5.cell? ⟨w.heap.size, 3, none⟩ = some (.int .i64 0) := Dw5.cell 3
      have d4 : w5.cell? ⟨w.heap.size, 4, none⟩ = some (.int .i64 0) := Dw5.cell 4
      have q0 : w5.frozen? ⟨w.heap.size, 0, none⟩ = false := Dw5.free 0
      have q1 : w5.frozen? ⟨w.heap.size, 1, none⟩ = false := Dw5.free 1
      have q2 : w5.frozen? ⟨w.heap.size, 2, none⟩ = false := Dw5.free 2
      have q3 : w5.frozen? ⟨w.heap.size, 3, none⟩ = false := Dw5.free 3
      have q4 : w5.frozen? ⟨w.heap.size, 4, none⟩ = false := Dw5.free 4
      have HDD := Lib.hid Dw5
      clear Kw5 Dw5
      by_cases heq : PT = s
      · subst heq
        have HP : Hid (parseS PT = (⟨TS, lo, hi, pr, ne⟩, 0)) := Lib.hid (by rw [HPL.out, if_pos, HLS.out]; rw [HLS.out]; exact ⟨HCE.out, HPT.out.symm⟩)
        go_wp2_with fail
        have bR := put5.box HDD.out (.slice va TS.length vc) (.int .i64 lo) (.int .i64 hi) (.int .i64 pr) (.int .i64 ne)
        have r0 := bR.cell 0; have r1 := bR.cell 1; have r2 := bR.cell 2; have r3 := bR.cell 3; have r4 := bR.cell 4
        simp [put5] at r0 r1 r2 r3 r4
        refine bodyPost_ret (v := .tuple #[.agg #[.slice va TS.length vc, .int .i64 lo, .int .i64 hi, .int .i64 pr, .int .i64 ne], .int .i64 0]) (by simp [results, Tryd.results42, go_sem, r0, r1, r2, r3, r4]) rfl ?_
        unfold ParseQ
        rw [HP.out]
        refine ⟨va, vc, rfl, ?_, put5.below (HX.out _ HS5.out).2.1 (Nat.le_refl _) _ _ _ _ _⟩
        exact trees_of_row (ts := TS) (by have := HR5.out; rw [List.take_length] at this; exact ownsRow_put5 this (by have := HZ2.out; omega) _ _ _ _ _) rfl HFT.out (by have := HTL.out; omega)
      · have hd := Lib.toList_data PT
        have hd2 := Lib.toList_data s
        have hnq : (PT.toList == s.toList) = false := by
          rw [beq_eq_false_iff_ne, hd, hd2]
          exact fun e => heq (ByteArray.ext (Array.toList_inj.1 e))
        have hnq2 : (PT.toList != s.toList) = true := by rw [bne, hnq]; rfl
        have HP : Hid (parseS s = (⟨[], 0, 0, 0, 0⟩, 5)) := Lib.hid (by
          rw [HPL.out, if_neg]
          rw [HLS.out]
          intro h
          exact heq (ByteArray.ext (Array.toList_inj.1 (HPT.out.trans h.2))))
        clear hd hd2 heq
        go_wp2_with fail
        have bR := put5.box HDD.out (.slice none 0 0) (.int .i64 0) (.int .i64 0) (.int .i64 0) (.int .i64 0)
        have r0 := bR.cell 0; have r1 := bR.cell 1; have r2 := bR.cell 2; have r3 := bR.cell 3; have r4 := bR.cell 4
        simp [put5] at r0 r1 r2 r3 r4
        refine bodyPost_ret (v := .tuple #[.agg #[.slice none 0 0, .int .i64 0, .int .i64 0, .int .i64 0, .int .i64 0], .int .i64 5]) (by simp [results, Tryd.results42, go_sem, r0, r1, r2, r3, r4]) rfl ?_
        unfold ParseQ
        rw [HP.out]
        exact ⟨none, 0, rfl, trees_nil _, put5.below (HX.out _ HS5.out).2.1 (Nat.le_refl _) _ _ _ _ _⟩
    | succ g =>
      have hML := HM.out
      have hkL : k + 2 < L.length := by omega
      have hlt : (k : Int) + 1 + 1 < (L.length : Int) := by omega
      have hlt1 : (k : Int) + 1 < (L.length : Int) := by omega
      have htn : ((k : Int) + 1).toNat = k + 1 := by omega
      obtain ⟨x, hx⟩ : ∃ x, L[k + 1]? = some x := ⟨_, List.getElem?_eq_getElem (by omega)⟩
      have hxm := HLP.out x (List.mem_of_getElem? hx)
      have hxs : (⟨x.toArray⟩ : ByteArray).size ≤ 65536 := by
        show x.toArray.size ≤ 65536
        simpa using hxm
      have c1 : wr.cell? ⟨lb, loff + (k + 1), none⟩ = some (.string ⟨x.toArray⟩) := HLC.out wr (HB2.out.trans (HD.out.mono HB2.out.size)) (k + 1) x hx
      obtain ⟨T, hT⟩ : ∃ T, splitL 32 x = T := ⟨_, rfl⟩
      have HT := Lib.hid hT
      have hTl : T.length ≤ 65537 := by
        have := splitL_len 32 x
        rw [hT] at this; omega
      have HTP : Hid (∀ y ∈ T, y.length ≤ 65536) := Lib.hid fun y hy => by
        have := splitL_part 32 x y (by rw [hT]; exact hy)
        omega
      obtain ⟨tx, htx⟩ : ∃ v, looseV T 2 = v := ⟨_, rfl⟩
      obtain ⟨ty, hty⟩ : ∃ v, looseV T 3 = v := ⟨_, rfl⟩
      obtain ⟨gl, hgl⟩ : ∃ v, looseV T 5 = v := ⟨_, rfl⟩
      obtain ⟨gh, hgh⟩ : ∃ v, looseV T 6 = v := ⟨_, rfl⟩
      obtain ⟨cr, hcr⟩ : ∃ v, looseV T 8 = v := ⟨_, rfl⟩
      have HTX := Lib.hid htx
      have HTY := Lib.hid hty
      have HGL := Lib.hid hgl
      have HGH := Lib.hid hgh
      have HCR := Lib.hid hcr
      have HTT : Hid (TS.take (k + 1) = TS.take k ++ [⟨⟨(T[1]?.getD []).toArray⟩, tx, ty, gl, gh, cr⟩]) := Lib.hid (by
        have e : TS[k]? = some (looseT x) := by
          rw [← HTS.out]
          unfold looseTs
          rw [List.getElem?_map, List.getElem?_dropLast, if_pos (by rw [List.length_drop]; omega), List.getElem?_drop, Nat.add_comm 1 k, hx]
          rfl
        rw [List.take_add_one, e]
        unfold looseT
        rw [hT, htx, hty, hgl, hgh, hcr]
        rfl)
      clear hML hx hxm hT htx hty hgl hgh hcr
      go_wp2_with fail
      refine (refSplit_any ⟨x.toArray⟩ 32 32 rfl _ hxs).mono ?_
      rw [show (⟨x.toArray⟩ : ByteArray).data.toList = x from rfl, HT.out]
      rintro e w3 ⟨ta, tc, rfl, hr3, hb3⟩
      have HS3 := Lib.hid (HB.out.trans (hb3.mono (HX.out _ HB.out).2.2))
      have HB3 := Lib.hid (hb3.mono hzw)
      have HD3 := Lib.hid (HD.out.trans (hb3.mono (by omega)))
      have HR3 := Lib.hid (ownsRow_below HR.out hb3 (Nat.le_refl _))
      have HK3 := Lib.hid (HK.out.below hb3 (by omega))
      have HT3 := Lib.hid (texts_strs hr3 rfl)
      have hz3 : w2.heap.size + 1 ≤ w3.heap.size := by have := hb3.size; omega
      clear hr3 hb3 c1
      go_wp2_with fail
      refine (refLoose_any ta T.length tc T 2 _ HT3.out (by omega) (by omega) HTP.out).mono ?_
      rw [HTX.out]
      rintro e w' ⟨rfl, rfl⟩
      go_wp2_with fail
      refine (refLoose_any ta T.length tc T 3 _ HT3.out (by omega) (by omega) HTP.out).mono ?_
      rw [HTY.out]
      rintro e w' ⟨rfl, rfl⟩
      go_wp2_with fail
      refine (refLoose_any ta T.length tc T 5 _ HT3.out (by omega) (by omega) HTP.out).mono ?_
      rw [HGL.out]
      rintro e w' ⟨rfl, rfl⟩
      go_wp2_with fail
      refine (refLoose_any ta T.length tc T 6 _ HT3.out (by omega) (by omega) HTP.out).mono ?_
      rw [HGH.out]
      rintro e w' ⟨rfl, rfl⟩
      go_wp2_with fail
      refine (refLoose_any ta T.length tc T 8 _ HT3.out (by omega) (by omega) HTP.out).mono ?_
      rw [HCR.out]
      rintro e w' ⟨rfl, rfl⟩
      by_cases h1T : 1 < T.length
      · obtain ⟨y, hy⟩ : ∃ y, T[1]? = some y := ⟨_, List.getElem?_eq_getElem h1T⟩
        obtain ⟨tb, toff, rfl, htb, htc⟩ := HT3.out.2.resolve_left (fun h => by rw [List.map_eq_nil_iff] at h; subst h; simp at h1T)
        have HTK : Hid (TS.take (k + 1) = TS.take k ++ [⟨⟨y.toArray⟩, tx, ty, gl, gh, cr⟩]) := Lib.hid (by rw [HTT.out, hy]; rfl)
        have y1 : (w3.alloc (.cells #[.string ⟨#[]⟩, .int .i64 tx, .int .i64 ty, .int .i64 gl, .int .i64 gh, .int .i64 cr] 62)).cell? ⟨tb, toff + 1, none⟩ = some (.string ⟨y.toArray⟩) := (cell_alloc htb _).trans (htc 1 _ (by rw [List.getElem?_map, hy]; rfl))
        have h1T' : (1 : Int) < (T.length : Int) := by omega
        clear htc hy htb
        have B4 : Below (w2.heap.size + 1) wr (w3.alloc (.cells #[.string ⟨y.toArray⟩, .int .i64 tx, .int .i64 ty, .int .i64 gl, .int .i64 gh, .int .i64 cr] 62)) := HB3.out.alloc (by omega) _
        have K4 := (HK3.out.alloc (.cells #[.string ⟨y.toArray⟩, .int .i64 tx, .int .i64 ty, .int .i64 gl, .int .i64 gh, .int .i64 cr] 62))
        have R4 := HR3.out.alloc (.cells #[.string ⟨y.toArray⟩, .int .i64 tx, .int .i64 ty, .int .i64 gl, .int .i64 gh, .int .i64 cr] 62)
        have k0 : (w3.alloc (.cells #[.string ⟨y.toArray⟩, .int .i64 tx, .int .i64 ty, .int .i64 gl, .int .i64 gh, .int .i64 cr] 62)).cell? ⟨w2.heap.size, 0, none⟩ = some (.slice va k vc) := K4.cell 0
        have bN := Box.new (w3.alloc (.cells #[.string ⟨y.toArray⟩, .int .i64 tx, .int .i64 ty, .int .i64 gl, .int .i64 gh, .int .i64 cr] 62)) #[.string ⟨y.toArray⟩, .int .i64 tx, .int .i64 ty, .int .i64 gl, .int .i64 gh, .int .i64 cr] 62
        rw [World.size_alloc] at bN
        have hO1 := R4.alloc (.cells #[.string ⟨y.toArray⟩, .int .i64 tx, .int .i64 ty, .int .i64 gl, .int .i64 gh, .int .i64 cr] 62)
        have HKQ := Lib.hid (K4.alloc (.cells #[.string ⟨y.toArray⟩, .int .i64 tx, .int .i64 ty, .int .i64 gl, .int .i64 gh, .int .i64 cr] 62))
        have HBQ := Lib.hid ((HS3.out.alloc (HX.out _ HS3.out).2.2 (.cells #[.string ⟨y.toArray⟩, .int .i64 tx, .int .i64 ty, .int .i64 gl, .int .i64 gh, .int .i64 cr] 62)).alloc (by have := (HX.out _ HS3.out).2.2; simp; omega) (.cells #[.string ⟨y.toArray⟩, .int .i64 tx, .int .i64 ty, .int .i64 gl, .int .i64 gh, .int .i64 cr] 62))
        have HDQ := Lib.hid ((HD3.out.alloc (by omega) (.cells #[.string ⟨y.toArray⟩, .int .i64 tx, .int .i64 ty, .int .i64 gl, .int .i64 gh, .int .i64 cr] 62)).alloc (by simp; omega) (.cells #[.string ⟨y.toArray⟩, .int .i64 tx, .int .i64 ty, .int .i64 gl, .int .i64 gh, .int .i64 cr] 62))
        clear B4 K4 R4
        go_wp2_with (at_builtin; refine wpList_append_own _ rfl _ _ 25 rfl (w2.heap.size + 1) 62 i0 z6 6 56 Tryd.underlying25 hi0 hz0 hz1 hz2 hzs (by decide) _ _ _ rfl hO1 ⟨w3.heap.size + 1, 0, none⟩ 1 1 [.string ⟨y.toArray⟩, .int .i64 tx, .int .i64 ty, .int .i64 gl, .int .i64 gh, .int .i64 cr] rfl rfl (fun j x hx => by rw [Addr.add_lit, Nat.zero_add, bN.cell]; simpa using hx) (by simp [Value.oneCell']) (by unfold maxLen; omega) (by omega) (by simp; omega) ?_; intro v8 w8 hown8 hgrow8 _; obtain ⟨va8, vc8, rfl⟩ := row_form hown8; have kg := HKQ.out.grown hgrow8 hO1 (by omega); have k1 : w8.cell? ⟨w2.heap.size, 0, none⟩ = some (.slice va k vc) := kg.cell 0; have f1 : w8.frozen? ⟨w2.heap.size, 0, none⟩ = false := kg.free 0; have hz8 := hgrow8.size)
        go_roundg g
        case rel => exact ⟨k + 1, va8, vc8, by omega, by go_num, Lib.hid (by rw [HTK.out, treeCells_snoc]; exact ownsRow_setCell hown8 (by exact Nat.lt_succ_self _) _), Lib.hid (kg.set 0 _), Lib.hid ((HBQ.out.grown hgrow8 (by have := (HX.out _ HS3.out).2.2; simp; omega) (fun j ej => by have := row_ge hO1 j ej; have := HZ2.out; omega)).setCell (by have := HZ2.out; show w.heap.size + 1 ≤ w2.heap.size; omega) _), Lib.hid ((HDQ.out.grown hgrow8 (by simp; omega) (fun j ej => by have := row_ge hO1 j ej; omega)).setCell (by exact Nat.le_refl _) _), by simp at hz8 ⊢; omega⟩
        case measure => omega
      · have HTK : Hid (TS.take (k + 1) = TS.take k ++ [⟨⟨#[]⟩, tx, ty, gl, gh, cr⟩]) := Lib.hid (by rw [HTT.out, List.getElem?_eq_none (by omega)]; rfl)
        have h1T' : ¬ ((1 : Int) < (T.length : Int)) := by omega
        have B4 : Below (w2.heap.size + 1) wr (w3.alloc (.cells #[.string ⟨#[]⟩, .int .i64 tx, .int .i64 ty, .int .i64 gl, .int .i64 gh, .int .i64 cr] 62)) := HB3.out.alloc (by omega) _
        have K4 := (HK3.out.alloc (.cells #[.string ⟨#[]⟩, .int .i64 tx, .int .i64 ty, .int .i64 gl, .int .i64 gh, .int .i64 cr] 62))
        have R4 := HR3.out.alloc (.cells #[.string ⟨#[]⟩, .int .i64 tx, .int .i64 ty, .int .i64 gl, .int .i64 gh, .int .i64 cr] 62)
        have k0 : (w3.alloc (.cells #[.string ⟨#[]⟩, .int .i64 tx, .int .i64 ty, .int .i64 gl, .int .i64 gh, .int .i64 cr] 62)).cell? ⟨w2.heap.size, 0, none⟩ = some (.slice va k vc) := K4.cell 0
        have bN := Box.new (w3.alloc (.cells #[.string ⟨#[]⟩, .int .i64 tx, .int .i64 ty, .int .i64 gl, .int .i64 gh, .int .i64 cr] 62)) #[.string ⟨#[]⟩, .int .i64 tx, .int .i64 ty, .int .i64 gl, .int .i64 gh, .int .i64 cr] 62
        rw [World.size_alloc] at bN
        have hO1 := R4.alloc (.cells #[.string ⟨#[]⟩, .int .i64 tx, .int .i64 ty, .int .i64 gl, .int .i64 gh, .int .i64 cr] 62)
        have HKQ := Lib.hid (K4.alloc (.cells #[.string ⟨#[]⟩, .int .i64 tx, .int .i64 ty, .int .i64 gl, .int .i64 gh, .int .i64 cr] 62))
        have HBQ := Lib.hid ((HS3.out.alloc (HX.out _ HS3.out).2.2 (.cells #[.string ⟨#[]⟩, .int .i64 tx, .int .i64 ty, .int .i64 gl, .int .i64 gh, .int .i64 cr] 62)).alloc (by have := (HX.out _ HS3.out).2.2; simp; omega) (.cells #[.string ⟨#[]⟩, .int .i64 tx, .int .i64 ty, .int .i64 gl, .int .i64 gh, .int .i64 cr] 62))
        have HDQ := Lib.hid ((HD3.out.alloc (by omega) (.cells #[.string ⟨#[]⟩, .int .i64 tx, .int .i64 ty, .int .i64 gl, .int .i64 gh, .int .i64 cr] 62)).alloc (by simp; omega) (.cells #[.string ⟨#[]⟩, .int .i64 tx, .int .i64 ty, .int .i64 gl, .int .i64 gh, .int .i64 cr] 62))
        clear B4 K4 R4
        go_wp2_with (at_builtin; refine wpList_append_own _ rfl _ _ 25 rfl (w2.heap.size + 1) 62 i0 z6 6 56 Tryd.underlying25 hi0 hz0 hz1 hz2 hzs (by decide) _ _ _ rfl hO1 ⟨w3.heap.size + 1, 0, none⟩ 1 1 [.string ⟨#[]⟩, .int .i64 tx, .int .i64 ty, .int .i64 gl, .int .i64 gh, .int .i64 cr] rfl rfl (fun j x hx => by rw [Addr.add_lit, Nat.zero_add, bN.cell]; simpa using hx) (by simp [Value.oneCell']) (by unfold maxLen; omega) (by omega) (by simp; omega) ?_; intro v8 w8 hown8 hgrow8 _; obtain ⟨va8, vc8, rfl⟩ := row_form hown8; have kg := HKQ.out.grown hgrow8 hO1 (by omega); have k1 : w8.cell? ⟨w2.heap.size, 0, none⟩ = some (.slice va k vc) := kg.cell 0; have f1 : w8.frozen? ⟨w2.heap.size, 0, none⟩ = false := kg.free 0; have hz8 := hgrow8.size)
        go_roundg g
        case rel => exact ⟨k + 1, va8, vc8, by omega, by go_num, Lib.hid (by rw [HTK.out, treeCells_snoc]; exact ownsRow_setCell hown8 (by exact Nat.lt_succ_self _) _), Lib.hid (kg.set 0 _), Lib.hid ((HBQ.out.grown hgrow8 (by have := (HX.out _ HS3.out).2.2; simp; omega) (fun j ej => by have := row_ge hO1 j ej; have := HZ2.out; omega)).setCell (by have := HZ2.out; show w.heap.size + 1 ≤ w2.heap.size; omega) _), Lib.hid ((HDQ.out.grown hgrow8 (by simp; omega) (fun j ej => by have := row_ge hO1 j ej; omega)).setCell (by exact Nat.le_refl _) _), by simp at hz8 ⊢; omega⟩
        case measure => omega
end Go.Proofs.YtpkjjiieglebbaaDoor
