/- Contracts of package stand's checks: of a tree, of trees that clash, of the index of a tree, of a number's range, of a rule, of a stand; and of cmp.Or on codes of errors. Conditions: the trees lie in memory as the model says; tags fit into memory. -/
import Derived.Test.YtpkjjiieglebbaaDoorA
import Derived.Deep.RegionHeld3
import Derived.Outline
namespace Go.Proofs.YtpkjjiieglebbaaDoor
open Go.RowKit
set_option maxHeartbeats 400000 in
theorem checkRange_any (n a b : Int) (w : World) :
    Calls Tryd.prog 68 #[.int .i64 n, .int .i64 a, .int .i64 b] w fun e w' => e = .returned (.int .i64 (rangeE n a b)) ∧ w = w' := by
  rcases h : frB n a b with _ | _
  all_goals
    go_enter Tryd.func68, Tryd.ntmps68
    go_wp2_with (go_at_call 62; refine (isFrom_any _ _ _ _).mono ?_; rintro e w' ⟨rfl, rfl⟩)
    go_ret; exact ⟨ret_int (by simp [rangeE, h]), rfl⟩
set_option maxHeartbeats 400000 in
theorem checkTree_any (a : Option Addr) (n c : Nat) (lo hi pr ne k : Int) (w : World) (hn : n ≤ 9223372036854775807) :
    Calls Tryd.prog 54 #[.agg #[.slice a n c, .int .i64 lo, .int .i64 hi, .int .i64 pr, .int .i64 ne], .int .i64 k] w
      fun e w' => e = .returned (.int .i64 (treeE n k)) ∧ Below w.heap.size w w' := by
  rcases h : frB k 0 (n - 1) with _ | _
  all_goals
    go_enter Tryd.func54, Tryd.ntmps54
    go_wp2_with (go_at_call 62; refine (isFrom_any _ _ _ _).mono ?_; rintro e w' ⟨rfl, rfl⟩)
    go_ret; exact ⟨ret_int (by simp [treeE, h]), (Below.refl _ _).alloc (Nat.le_refl _) _⟩
set_option maxHeartbeats 400000 in
theorem isTree_any (tag : ByteArray) (x y gl gh cr : Int) (w : World) (hs : tag.size ≤ maxLen) :
    Calls Tryd.prog 63 #[.agg #[.string tag, .int .i64 x, .int .i64 y, .int .i64 gl, .int .i64 gh, .int .i64 cr]] w
      fun e w' => e = .returned (.bool (treeB ⟨tag, x, y, gl, gh, cr⟩)) ∧ Below w.heap.size w w' := by
  rcases h1 : wordB tag.data.toList with _ | _
  · go_enter Tryd.func63, Tryd.ntmps63
    go_wp2_with (first | (go_at_call 62; refine (isFrom_any _ _ _ _).mono ?_; rintro e w' ⟨rfl, rfl⟩) | (go_at_call 18; refine (isWord_any _ _ hs).mono ?_; rintro e w' ⟨rfl, rfl⟩) | (go_at_call 61; refine (isSpan_any _ _ _ _ _).mono ?_; rintro e w1 ⟨rfl, hb1⟩; obtain ⟨hc1, hf1⟩ := bcell hb1))
    go_ret; exact ⟨ret_bool (by simp [treeB, h1]), (Below.refl _ _).alloc (Nat.le_refl _) _⟩
  rcases h2 : frB x 0 100000 with _ | _
  · go_enter Tryd.func63, Tryd.ntmps63
    go_wp2_with (first | (go_at_call 62; refine (isFrom_any _ _ _ _).mono ?_; rintro e w' ⟨rfl, rfl⟩) | (go_at_call 18; refine (isWord_any _ _ hs).mono ?_; rintro e w' ⟨rfl, rfl⟩) | (go_at_call 61; refine (isSpan_any _ _ _ _ _).mono ?_; rintro e w1 ⟨rfl, hb1⟩; obtain ⟨hc1, hf1⟩ := bcell hb1))
    go_ret; exact ⟨ret_bool (by simp [treeB, h2]), (Below.refl _ _).alloc (Nat.le_refl _) _⟩
  rcases h3 : frB y 0 100000 with _ | _
  · go_enter Tryd.func63, Tryd.ntmps63
    go_wp2_with (first | (go_at_call 62; refine (isFrom_any _ _ _ _).mono ?_; rintro e w' ⟨rfl, rfl⟩) | (go_at_call 18; refine (isWord_any _ _ hs).mono ?_; rintro e w' ⟨rfl, rfl⟩) | (go_at_call 61; refine (isSpan_any _ _ _ _ _).mono ?_; rintro e w1 ⟨rfl, hb1⟩; obtain ⟨hc1, hf1⟩ := bcell hb1))
    go_ret; exact ⟨ret_bool (by simp [treeB, h3]), (Below.refl _ _).alloc (Nat.le_refl _) _⟩
  rcases h4 : spanB gl gh 1 4000 with _ | _
  · go_enter Tryd.func63, Tryd.ntmps63
    go_wp2_with (first | (go_at_call 62; refine (isFrom_any _ _ _ _).mono ?_; rintro e w' ⟨rfl, rfl⟩) | (go_at_call 18; refine (isWord_any _ _ hs).mono ?_; rintro e w' ⟨rfl, rfl⟩) | (go_at_call 61; refine (isSpan_any _ _ _ _ _).mono ?_; rintro e w1 ⟨rfl, hb1⟩; obtain ⟨hc1, hf1⟩ := bcell hb1))
    go_ret; exact ⟨ret_bool (by simp [treeB, h4]), ((Below.refl _ _).alloc (Nat.le_refl _) _).trans (hb1.mono (by simp))⟩
  rcases h5 : frB cr 0 100 with _ | _
  all_goals
    go_enter Tryd.func63, Tryd.ntmps63
    go_wp2_with (first | (go_at_call 62; refine (isFrom_any _ _ _ _).mono ?_; rintro e w' ⟨rfl, rfl⟩) | (go_at_call 18; refine (isWord_any _ _ hs).mono ?_; rintro e w' ⟨rfl, rfl⟩) | (go_at_call 61; refine (isSpan_any _ _ _ _ _).mono ?_; rintro e w1 ⟨rfl, hb1⟩; obtain ⟨hc1, hf1⟩ := bcell hb1))
    go_ret; exact ⟨ret_bool (by simp [treeB, h1, h2, h3, h4, h5]), ((Below.refl _ _).alloc (Nat.le_refl _) _).trans (hb1.mono (by simp))⟩
/-- Trees lie in memory, one behind the other, from a cell of a block on. -/
def TreesAt (w : World) (b off : Nat) (ts : List Tree) : Prop :=
  ∀ (i : Nat) (t : Tree), ts[i]? = some t → w.cell? ⟨b, off + i * 6, none⟩ = some (.string t.tag) ∧ w.cell? ⟨b, off + i * 6 + 1, none⟩ = some (.int .i64 t.x) ∧
    w.cell? ⟨b, off + i * 6 + 2, none⟩ = some (.int .i64 t.y) ∧ w.cell? ⟨b, off + i * 6 + 3, none⟩ = some (.int .i64 t.gl) ∧
    w.cell? ⟨b, off + i * 6 + 4, none⟩ = some (.int .i64 t.gh) ∧ w.cell? ⟨b, off + i * 6 + 5, none⟩ = some (.int .i64 t.cr)
theorem TreesAt.below {w w' : World} {b off B : Nat} {ts : List Tree} (h : TreesAt w b off ts) (hb : Below B w w') (hlt : b < B) : TreesAt w' b off ts := fun i t ht => by
  obtain ⟨c0, c1, c2, c3, c4, c5⟩ := h i t ht
  exact ⟨(hb.cell (by exact hlt)).trans c0, (hb.cell (by exact hlt)).trans c1, (hb.cell (by exact hlt)).trans c2, (hb.cell (by exact hlt)).trans c3, (hb.cell (by exact hlt)).trans c4, (hb.cell (by exact hlt)).trans c5⟩
theorem TreesAt.drew {w : World} {b off : Nat} {ts : List Tree} (h : TreesAt w b off ts) : TreesAt w.drew b off ts := h
theorem TreesAt.alloc {w : World} {b off : Nat} {ts : List Tree} (h : TreesAt w b off ts) (hlt : b < w.heap.size) (o : Obj) : TreesAt (w.alloc o) b off ts :=
  h.below ((Below.refl w.heap.size w).alloc (Nat.le_refl _) o) hlt
theorem TreesAt.take {w : World} {b off : Nat} {ts : List Tree} (h : TreesAt w b off ts) (n : Nat) : TreesAt w b off (ts.take n) := fun i t ht => h i t (by
  rw [List.getElem?_take] at ht
  split at ht
  · exact ht
  · cases ht)
set_option maxHeartbeats 400000 in
theorem clashes_any (tag : ByteArray) (x y gl gh cr : Int) (b off n c : Nat) (ts : List Tree) (w : World) (hT : TreesAt w b off ts) (hB : b < w.heap.size) (hm : ts.length ≤ 1000) (hn : ts.length = n) :
    Calls Tryd.prog 64 #[.agg #[.string tag, .int .i64 x, .int .i64 y, .int .i64 gl, .int .i64 gh, .int .i64 cr], .slice (some ⟨b, off, none⟩) n c] w
      fun e w' => e = .returned (.bool (ts.any (clash ⟨tag, x, y, gl, gh, cr⟩))) ∧ Below w.heap.size w w' := by
  subst hn
  have HX : Hid (∀ wr, Below (w.heap.size + 1) (w.alloc (.cells #[.string tag, .int .i64 x, .int .i64 y, .int .i64 gl, .int .i64 gh, .int .i64 cr] 62)) wr →
      TreesAt wr b off ts ∧ Box wr w.heap.size #[.string tag, .int .i64 x, .int .i64 y, .int .i64 gl, .int .i64 gh, .int .i64 cr] 62 ∧ w.heap.size < wr.heap.size ∧ Below w.heap.size w wr) :=
    Lib.hid fun wr hb => ⟨(hT.alloc hB _).below hb (by omega), (Box.new w _ _).below hb (by omega), by have := hb.size; simp at this; omega, ((Below.refl _ _).alloc (Nat.le_refl _) _).trans (hb.mono (by omega))⟩
  go_enter Tryd.func64, Tryd.ntmps64
  go_wp2_with fail
  go_loopw [9] (fun i wr => ∃ k : Nat, k ≤ ts.length ∧ i = .int .i64 k ∧ Below (w.heap.size + 1) (w.alloc (.cells #[.string tag, .int .i64 x, .int .i64 y, .int .i64 gl, .int .i64 gh, .int .i64 cr] 62)) wr ∧ Hid ((ts.take k).any (clash ⟨tag, x, y, gl, gh, cr⟩) = false))
    (fun i _ => ts.length - (intOf i).toNat)
  case atStart => exact ⟨0, Nat.zero_le _, rfl, Below.refl _ _, Lib.hid (by simp)⟩
  case round =>
    obtain ⟨k, hk, rfl, hb, HK⟩ := hrel
    obtain ⟨hT1, hX, hz, hB1⟩ := HX.out wr hb
    clear hT HX
    by_cases hlt : k < ts.length
    · obtain ⟨t, ht⟩ : ∃ t, ts[k]? = some t := ⟨_, List.getElem?_eq_getElem hlt⟩
      obtain ⟨c0, c1, c2, c3, c4, c5⟩ := hT1 k t ht
      have e0 : wr.cell? ⟨w.heap.size, 0, none⟩ = some (.string tag) := hX.cell 0
      have e1 : wr.cell? ⟨w.heap.size, 1, none⟩ = some (.int .i64 x) := hX.cell 1
      have e2 : wr.cell? ⟨w.heap.size, 2, none⟩ = some (.int .i64 y) := hX.cell 2
      have hne : wr.heap.size ≠ w.heap.size := by omega
      have hst : (ts.take (k + 1)).any (clash ⟨tag, x, y, gl, gh, cr⟩) = ((ts.take k).any (clash ⟨tag, x, y, gl, gh, cr⟩) || clash ⟨tag, x, y, gl, gh, cr⟩ t) := by
        rw [List.take_add_one, ht, List.any_append]; simp
      have hgo : clash ⟨tag, x, y, gl, gh, cr⟩ t = false → Hid ((ts.take (k + 1)).any (clash ⟨tag, x, y, gl, gh, cr⟩) = false) := fun h => Lib.hid (by rw [hst, HK.out, h]; rfl)
      have hno : clash ⟨tag, x, y, gl, gh, cr⟩ t = true → Hid (ts.any (clash ⟨tag, x, y, gl, gh, cr⟩) = true) := fun h => Lib.hid (List.any_eq_true.2 ⟨t, List.mem_of_getElem? ht, h⟩)
      clear ht hT1 hX hst HK
      have hbn := hb
      rcases h1 : (t.tag.toList == tag.toList) with _ | _
      · rcases h2 : (t.x == x) with _ | _
        · have HK1 := hgo (by simp [clash, h1, h2])
          clear hgo hno
          go_wp2_with fail
          go_roundw
          case rel => exact ⟨k + 1, by omega, by go_num, hbn.alloc (by omega) _, HK1⟩
          case measure => simp [intOf]; omega
        · rcases h3 : (t.y == y) with _ | _
          · have HK1 := hgo (by simp only [clash, h1, h2, h3]; rfl)
            clear hgo hno
            go_wp2_with fail
            go_roundw
            case rel => exact ⟨k + 1, by omega, by go_num, hbn.alloc (by omega) _, HK1⟩
            case measure => simp [intOf]; omega
          · have HF := hno (by simp only [clash, h1, h2, h3]; rfl)
            clear hgo hno
            go_wp2_with fail
            go_ret
            exact ⟨ret_bool (by rw [HF.out]), hB1.alloc (by omega) _⟩
      · have HF := hno (by simp only [clash, h1]; rfl)
        clear hgo hno
        go_wp2_with fail
        go_ret
        exact ⟨ret_bool (by rw [HF.out]), hB1.alloc (by omega) _⟩
    · have HF : Hid (ts.any (clash ⟨tag, x, y, gl, gh, cr⟩) = false) := Lib.hid (by have := HK.out; rwa [List.take_of_length_le (by omega)] at this)
      go_wp2_with fail
      go_ret
      exact ⟨ret_bool (by rw [HF.out]), hB1⟩
end Go.Proofs.YtpkjjiieglebbaaDoor
