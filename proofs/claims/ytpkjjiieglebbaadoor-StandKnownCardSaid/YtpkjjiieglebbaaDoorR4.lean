/- Contract of the reference's Check. Conditions: the trees lie in memory as the model says; tags fit into memory. -/
import Derived.Test.YtpkjjiieglebbaaDoorR3
import Derived.Test.YtpkjjiieglebbaaDoorSW
namespace Go.Proofs.YtpkjjiieglebbaaDoor
open Go Go.RowKit
theorem any_step {ts : List Tree} {t u : Tree} {j : Nat} (h : ts[j]? = some u) : (ts.take (j + 1)).any (clash t) = ((ts.take j).any (clash t) || clash t u) := by
  rw [List.take_add_one, h, List.any_append]; simp
theorem any_hit {ts : List Tree} {t u : Tree} {j k : Nat} (h : ts[j]? = some u) (hj : j < k) (hc : clash t u = true) : (ts.take k).any (clash t) = true := by
  refine List.any_eq_true.2 ⟨u, ?_, hc⟩
  refine List.mem_of_getElem? (i := j) ?_
  rw [List.getElem?_take, if_pos hj]; exact h
def outQ (ts : List Tree) (k : Nat) (ok : Bool) : Prop := (ok = true → treesB [] ts = treesB (ts.take k) (ts.drop k)) ∧ (ok = false → treesB [] ts = false)
def inQ (ts : List Tree) (t : Tree) (k jj : Nat) (ok : Bool) : Prop := (ok = true → treeB t = true ∧ (ts.take jj).any (clash t) = false) ∧ (ok = false → (treeB t && !(ts.take k).any (clash t)) = false)
set_option maxRecDepth 100000 in
set_option maxHeartbeats 4000000 in
theorem refCheck_any (a : Option Addr) (n c : Nat) (ts : List Tree) (lo hi pr ne : Int) (w : World) (hT : Trees w a n c ts) :
    Calls Tryd.prog 21 #[.agg #[.slice a n c, .int .i64 lo, .int .i64 hi, .int .i64 pr, .int .i64 ne]] w
      fun e w' => e = .returned (.int .i64 (checkE ⟨ts, lo, hi, pr, ne⟩)) ∧ Below w.heap.size w w' := by
  have hn := hT.len
  subst hn
  have hfit := hT.fits
  have HX : Hid (∀ W, Below (w.heap.size + 1) (w.alloc (.cells #[.slice a ts.length c, .int .i64 lo, .int .i64 hi, .int .i64 pr, .int .i64 ne] 29)) W → Box W w.heap.size #[.slice a ts.length c, .int .i64 lo, .int .i64 hi, .int .i64 pr, .int .i64 ne] 29 ∧ Trees W a ts.length c ts ∧ Below w.heap.size w W ∧ w.heap.size < W.heap.size) := Lib.hid fun W h => by
    have hB : Below w.heap.size w W := ((Below.refl _ _).alloc (Nat.le_refl _) _).trans (h.mono (by omega))
    exact ⟨(Box.new w _ _).below h (by omega), hT.below hB, hB, by have := h.size; simp at this; omega⟩
  have HTG := Lib.hid hT.tags
  have hS0 : Below (w.heap.size + 1) (w.alloc (.cells #[.slice a ts.length c, .int .i64 lo, .int .i64 hi, .int .i64 pr, .int .i64 ne] 29)) (w.alloc (.cells #[.slice a ts.length c, .int .i64 lo, .int .i64 hi, .int .i64 pr, .int .i64 ne] 29)) := Below.refl _ _
  clear hT
  by_cases h14 : (ts.length : Int) ≤ 14
  case neg =>
    have HF : Hid (checkE ⟨ts, lo, hi, pr, ne⟩ = 10) := Lib.hid (by simp [checkE, standB, headB]; omega)
    go_enter Tryd.func21, Tryd.ntmps21
    go_wp2_with (first | (go_at_call 45; refine (refIn_any _ _ _ _).mono ?_; rintro e w' ⟨rfl, rfl⟩) | (go_at_call 65; refine (refSpan_any _ _ _ _ _).mono ?_; rintro e w1 ⟨rfl, hb1⟩; obtain ⟨hc1, hf1⟩ := bcell hb1))
    go_loopw [3] (fun o wr => o = .bool false ∧ Below w.heap.size w wr) (fun _ _ => 0)
    case atStart => exact ⟨rfl, (HX.out _ hS0).2.2.1⟩
    case round =>
      obtain ⟨rfl, hB⟩ := hrel
      go_wp2_with fail
      go_ret; exact ⟨ret_int HF.out.symm, hB⟩
  rcases h1 : spanB lo hi 0 100 with _ | _
  · have HF : Hid (checkE ⟨ts, lo, hi, pr, ne⟩ = 10) := Lib.hid (by simp [checkE, standB, headB, h1])
    go_enter Tryd.func21, Tryd.ntmps21
    go_wp2_with (first | (go_at_call 45; refine (refIn_any _ _ _ _).mono ?_; rintro e w' ⟨rfl, rfl⟩) | (go_at_call 65; refine (refSpan_any _ _ _ _ _).mono ?_; rintro e w1 ⟨rfl, hb1⟩; obtain ⟨hc1, hf1⟩ := bcell hb1))
    have hS1 := hS0.trans (hb1.mono (by simp))
    go_loopw [3] (fun o wr => o = .bool false ∧ Below w.heap.size w wr) (fun _ _ => 0)
    case atStart => exact ⟨rfl, (HX.out _ hS1).2.2.1⟩
    case round =>
      obtain ⟨rfl, hB⟩ := hrel
      go_wp2_with fail
      go_ret; exact ⟨ret_int HF.out.symm, hB⟩
  rcases h2 : frB pr 0 100 with _ | _
  · have HF : Hid (checkE ⟨ts, lo, hi, pr, ne⟩ = 10) := Lib.hid (by simp [checkE, standB, headB, h2])
    go_enter Tryd.func21, Tryd.ntmps21
    go_wp2_with (first | (go_at_call 45; refine (refIn_any _ _ _ _).mono ?_; rintro e w' ⟨rfl, rfl⟩) | (go_at_call 65; refine (refSpan_any _ _ _ _ _).mono ?_; rintro e w1 ⟨rfl, hb1⟩; obtain ⟨hc1, hf1⟩ := bcell hb1))
    have hS1 := hS0.trans (hb1.mono (by simp))
    go_loopw [3] (fun o wr => o = .bool false ∧ Below w.heap.size w wr) (fun _ _ => 0)
    case atStart => exact ⟨rfl, (HX.out _ hS1).2.2.1⟩
    case round =>
      obtain ⟨rfl, hB⟩ := hrel
      go_wp2_with fail
      go_ret; exact ⟨ret_int HF.out.symm, hB⟩
  rcases h3 : frB ne 0 100000 with _ | _
  · have HF : Hid (checkE ⟨ts, lo, hi, pr, ne⟩ = 10) := Lib.hid (by simp [checkE, standB, headB, h3])
    go_enter Tryd.func21, Tryd.ntmps21
    go_wp2_with (first | (go_at_call 45; refine (refIn_any _ _ _ _).mono ?_; rintro e w' ⟨rfl, rfl⟩) | (go_at_call 65; refine (refSpan_any _ _ _ _ _).mono ?_; rintro e w1 ⟨rfl, hb1⟩; obtain ⟨hc1, hf1⟩ := bcell hb1))
    have hS1 := hS0.trans (hb1.mono (by simp))
    go_loopw [3] (fun o wr => o = .bool false ∧ Below w.heap.size w wr) (fun _ _ => 0)
    case atStart => exact ⟨rfl, (HX.out _ hS1).2.2.1⟩
    case round =>
      obtain ⟨rfl, hB⟩ := hrel
      go_wp2_with fail
      go_ret; exact ⟨ret_int HF.out.symm, hB⟩
  have HH : Hid (checkE ⟨ts, lo, hi, pr, ne⟩ = if treesB [] ts then 0 else 10) := Lib.hid (by simp only [checkE, standB, headB, h1, h2, h3]; simp [show ts.length ≤ 14 by omega])
  go_enter Tryd.func21, Tryd.ntmps21
  go_wp2_with (first | (go_at_call 45; refine (refIn_any _ _ _ _).mono ?_; rintro e w' ⟨rfl, rfl⟩) | (go_at_call 65; refine (refSpan_any _ _ _ _ _).mono ?_; rintro e w1 ⟨rfl, hb1⟩; obtain ⟨hc1, hf1⟩ := bcell hb1))
  have hS1 := hS0.trans (hb1.mono (by simp))
  clear hc1 hf1 hb1 hS0 h1 h2 h3
  go_loopg [3, 4] ts.length (fun g o i wr => ∃ (k : Nat) (ok : Bool), k + g = ts.length ∧ i = .int .i64 k ∧ o = .bool ok ∧ Hid (outQ ts k ok) ∧ Below (w.heap.size + 1) (w.alloc (.cells #[.slice a ts.length c, .int .i64 lo, .int .i64 hi, .int .i64 pr, .int .i64 ne] 29)) wr)
  case atStart => exact ⟨0, true, by omega, rfl, rfl, Lib.hid ⟨fun _ => (by simp), fun h => (by cases h)⟩, hS1⟩
  case round =>
    obtain ⟨k, ok, hkg, rfl, rfl, HK, hB⟩ := hrel
    obtain ⟨bx, hTr, hB0, hz⟩ := HX.out wr hB
    have e0 : wr.cell? ⟨w.heap.size, 0, none⟩ = some (.slice a ts.length c) := bx.cell 0
    cases ok with
    | false =>
      have HF : Hid (checkE ⟨ts, lo, hi, pr, ne⟩ = 10) := Lib.hid (by rw [HH.out, HK.out.2 rfl]; rfl)
      clear HH HK hTr bx
      go_wp2_with fail
      go_ret; exact ⟨ret_int HF.out.symm, hB0⟩
    | true =>
      cases gk with
      | zero =>
        have HF : Hid (checkE ⟨ts, lo, hi, pr, ne⟩ = 0) := Lib.hid (by rw [HH.out, HK.out.1 rfl, List.drop_of_length_le (by omega)]; rfl)
        clear HH HK hTr bx
        go_wp2_with fail
        go_ret; exact ⟨ret_int HF.out.symm, hB0⟩
      | succ g =>
        have hlt : k < ts.length := by omega
        obtain ⟨t, ht⟩ : ∃ t, ts[k]? = some t := ⟨_, List.getElem?_eq_getElem hlt⟩
        have htg := HTG.out t (List.mem_of_getElem? ht)
        rcases hTr.at_ with rfl | ⟨b, off, rfl, hbl, hTA⟩
        · simp at hlt
        obtain ⟨c0, c1, c2, c3, c4, c5⟩ := hTA k t ht
        have HST : Hid (treesB [] ts = (treeB t && !(ts.take k).any (clash t) && treesB (ts.take (k + 1)) (ts.drop (k + 1)))) := Lib.hid (by
          rw [HK.out.1 rfl, List.drop_eq_getElem_cons hlt, List.take_add_one, ht, treesB]
          simp [show ts[k] = t by rw [List.getElem?_eq_getElem hlt] at ht; exact Option.some.inj ht])
        have hne : wr.heap.size ≠ w.heap.size := by omega
        have HTA := Lib.hid hTA
        obtain ⟨tag, x, y, gl, gh, cr⟩ := t
        dsimp only at c0 c1 c2 c3 c4 c5 htg
        clear HK hTA hTr
        have hbl2 : b < wr.heap.size := hbl
        have HR : Hid (∀ W, Below (wr.heap.size + 1) (wr.alloc (.cells #[.string tag, .int .i64 x, .int .i64 y, .int .i64 gl, .int .i64 gh, .int .i64 cr] 62)) W → Box W wr.heap.size #[.string tag, .int .i64 x, .int .i64 y, .int .i64 gl, .int .i64 gh, .int .i64 cr] 62 ∧ Box W w.heap.size #[.slice (some ⟨b, off, none⟩) ts.length c, .int .i64 lo, .int .i64 hi, .int .i64 pr, .int .i64 ne] 29 ∧ TreesAt W b off ts ∧ wr.heap.size < W.heap.size ∧ Below wr.heap.size wr W) := Lib.hid fun W h => by
          have hbb : Below wr.heap.size wr W := ((Below.refl _ _).alloc (Nat.le_refl _) _).trans (h.mono (by omega))
          exact ⟨(Box.new wr _ _).below h (by omega), bx.below hbb hz, HTA.out.below hbb hbl2, by have := h.size; simp at this; omega, hbb⟩
        go_wp2_with (go_at_call 66; refine (refTree_any tag x y gl gh cr _ htg).mono ?_; rintro e w2 ⟨rfl, hb2⟩)
        have hS2 : Below (wr.heap.size + 1) (wr.alloc (.cells #[.string tag, .int .i64 x, .int .i64 y, .int .i64 gl, .int .i64 gh, .int .i64 cr] 62)) w2 := hb2.mono (by simp)
        clear hb2 bx HTA
        go_loopg [3, 6] k (fun h o j wy => ∃ (jj : Nat) (ok2 : Bool), jj + h = k ∧ j = .int .i64 jj ∧ o = .bool ok2 ∧ Hid (inQ ts (⟨tag, x, y, gl, gh, cr⟩ : Tree) k jj ok2) ∧ Below (wr.heap.size + 1) (wr.alloc (.cells #[.string tag, .int .i64 x, .int .i64 y, .int .i64 gl, .int .i64 gh, .int .i64 cr] 62)) wy)
        case atStart => exact ⟨0, treeB (⟨tag, x, y, gl, gh, cr⟩ : Tree), by omega, rfl, rfl, Lib.hid ⟨fun h => ⟨h, (by simp)⟩, fun h => (by rw [h]; rfl)⟩, hS2⟩
        case round =>
          obtain ⟨jj, ok2, hjh, rfl, rfl, HJ, hBy⟩ := hrel
          cases ok2 with
          | false =>
            have HK1 : Hid (outQ ts (k + 1) false) := Lib.hid ⟨fun h => (by cases h), fun _ => (by rw [HST.out, HJ.out.2 rfl]; rfl)⟩
            have hfin := hB.trans (((HR.out _ hBy).2.2.2.2).mono (by omega))
            go_wp2_with fail
            go_roundg g
            case rel => exact ⟨k + 1, false, by omega, by go_num, rfl, HK1, hfin⟩
            case measure => omega
          | true =>
            obtain ⟨hj1, hj2⟩ := HJ.out
            have hj1' := hj1 rfl
            have HJ1 := Lib.hid hj1'
            clear hj1 hj2 hj1' HJ
            cases gk with
            | zero =>
              have e : jj = k := by omega
              have HK1 : Hid (outQ ts (k + 1) true) := Lib.hid ⟨fun _ => (by
                have q := HJ1.out
                rw [e] at q
                rw [HST.out, q.1, q.2]; rfl), fun h => (by cases h)⟩
              clear e
              have hfin := hB.trans (((HR.out _ hBy).2.2.2.2).mono (by omega))
              go_wp2_with fail
              go_roundg g
              case rel => exact ⟨k + 1, true, by omega, by go_num, rfl, HK1, hfin⟩
              case measure => omega
            | succ h =>
              obtain ⟨u, hu⟩ : ∃ u, ts[jj]? = some u := ⟨_, List.getElem?_eq_getElem (by omega)⟩
              obtain ⟨bT, bS, hTy, hzy, hBw⟩ := HR.out _ hBy
              obtain ⟨d0, d1, d2, d3, d4, d5⟩ := hTy jj u hu
              have f0 := bS.cell 0
              have g0 := bT.cell 0; have g1 := bT.cell 1; have g2 := bT.cell 2
              simp only [List.getElem?_toArray, List.getElem?_cons_zero, List.getElem?_cons_succ] at f0 g0 g1 g2
              have hs1 := any_step (t := (⟨tag, x, y, gl, gh, cr⟩ : Tree)) hu
              have HNX : clash (⟨tag, x, y, gl, gh, cr⟩ : Tree) u = false → Hid (inQ ts (⟨tag, x, y, gl, gh, cr⟩ : Tree) k (jj + 1) true) := fun hc => Lib.hid ⟨fun _ => ⟨HJ1.out.1, (by rw [hs1, HJ1.out.2, hc]; rfl)⟩, fun h => (by cases h)⟩
              have HNO : clash (⟨tag, x, y, gl, gh, cr⟩ : Tree) u = true → Hid (inQ ts (⟨tag, x, y, gl, gh, cr⟩ : Tree) k (jj + 1) false) := fun hc => Lib.hid ⟨fun h => (by cases h), fun _ => (by rw [any_hit hu (by omega) hc]; simp)⟩
              have hn1 := Nat.ne_of_gt hzy
              have hn2 := Nat.ne_of_gt (Nat.lt_trans hz hzy)
              have hfin := hBy.alloc (by omega) (.cells #[.string u.tag, .int .i64 u.x, .int .i64 u.y, .int .i64 u.gl, .int .i64 u.gh, .int .i64 u.cr] 62)
              clear hu hTy hs1 bT bS
              rcases q1 : (u.tag.toList == tag.toList) with _ | _
              · rcases q2 : (u.x == x) with _ | _
                · have HN := HNX (by simp [clash, q1, q2])
                  have q2' : (u.x != x) = true := by simpa using q2
                  clear HNX HNO
                  go_wp2_with fail
                  go_roundg h
                  case rel => exact ⟨jj + 1, true, by omega, by go_num, rfl, HN, hfin⟩
                  case measure => omega
                · rcases q3 : (u.y == y) with _ | _
                  · have HN := HNX (by simp [clash, q1, q2, q3])
                    have q2' : (u.x != x) = false := by simpa using q2
                    have q3' : (u.y != y) = true := by simpa using q3
                    clear HNX HNO
                    go_wp2_with fail
                    go_roundg h
                    case rel => exact ⟨jj + 1, true, by omega, by go_num, rfl, HN, hfin⟩
                    case measure => omega
                  · have HN := HNO (by simp [clash, q1, q2, q3])
                    have q2' : (u.x != x) = false := by simpa using q2
                    have q3' : (u.y != y) = false := by simpa using q3
                    clear HNX HNO
                    go_wp2_with fail
                    go_roundg h
                    case rel => exact ⟨jj + 1, false, by omega, by go_num, rfl, HN, hfin⟩
                    case measure => omega
              · have HN := HNO (by simp [clash, q1])
                clear HNX HNO
                go_wp2_with fail
                go_roundg h
                case rel => exact ⟨jj + 1, false, by omega, by go_num, rfl, HN, hfin⟩
                case measure => omega

end Go.Proofs.YtpkjjiieglebbaaDoor
