/- Contract of package stand's Print. Conditions: the trees lie in memory as the model says; the table of powers of ten holds what the text lays. -/
import Derived.Test.YtpkjjiieglebbaaDoorLI
import Derived.Lib.ItoaLen
namespace Go.Proofs.YtpkjjiieglebbaaDoor
open Go Go.RowKit
theorem gTab : Tryd.prog.globalNamed "internal/strconv.uint64pow10" = some 1 := by kernel_rfl
/-- The table of powers of ten holds what the text lays. -/
def Tab (w : World) : Prop := Lib.TabIs Tryd.prog w "internal/strconv.uint64pow10" .u64 Lib.pow10Tab
theorem Tab.lt {w : World} (h : Tab w) : 1 < w.heap.size := by
  have := h.cell gTab 0 (by decide)
  exact Nat.lt_of_not_le fun hn => by simp [World.cell?, Array.getElem?_eq_none hn] at this
theorem Tab.below {w w' : World} (h : Tab w) (hb : Below w.heap.size w w') : Tab w' := by
  have hl := h.lt
  unfold Tab Lib.TabIs World.var? at *
  rw [gTab] at *
  simp only [Option.bind_some] at *
  rw [hb.block _ hl]
  exact h
theorem below_grow {B : Nat} {a w : World} (h : Below B a w) (hB : B ≤ w.heap.size) (k : Nat) (os : Array Obj) : Below B a (Sort.grow (w.drewN k) os) :=
  h.trans ⟨rfl, rfl, rfl, by simp [Sort.grow], fun k hk => by
    show (w.heap ++ os)[k]? = w.heap[k]?
    rw [Array.getElem?_append_left (show k < w.heap.size by omega)]⟩
theorem itoa_any (n : Int) (w : World) (h0 : -9223372036854775808 ≤ n) (h1 : n ≤ 9223372036854775807) (hT : Tab w) :
    Calls Tryd.prog 83 #[.int .i64 n] w fun e w' => e = .returned (.string ⟨(Lib.itoa n).toArray⟩) ∧ Below w.heap.size w w' := by
  refine (Tryd.strconv_Itoa n h0 h1 w hT).mono ?_
  rintro e w' ⟨rfl, k, os, rfl⟩
  exact ⟨rfl, below_grow (Below.refl _ _) (Nat.le_refl _) k os⟩
def lenS (xs : List (List UInt8)) : Nat := (xs.map (·.length + 1)).sum
theorem join_len : ∀ xs : List (List UInt8), (Lib.join xs [32]).length ≤ lenS xs
  | [] => by simp [Lib.join, lenS, List.intercalate]
  | [x] => by simp [Lib.join, lenS, List.intercalate]
  | x :: y :: r => by
    have ih := join_len (y :: r)
    have e : Lib.join (x :: y :: r) [32] = x ++ ([32] ++ Lib.join (y :: r) [32]) := by simp [Lib.join, List.intercalate]
    rw [e]
    simp only [lenS, List.map_cons, List.sum_cons, List.length_append, List.length_singleton] at *
    omega
def num (n : Int) : ByteArray := ⟨(Lib.itoa n).toArray⟩
theorem num_len {n : Int} (h : 0 ≤ n ∧ n ≤ 1000000) : (num n).data.toList.length ≤ 21 := by
  have := Lib.itoa_length_le n (by omega) (by omega)
  simpa [num] using this
def headT (s : Stand) : List ByteArray := [⟨#[115, 116, 97, 110, 100]⟩, ⟨#[103, 114, 111, 119]⟩, num s.lo, num s.hi, ⟨#[112, 114, 101, 115, 115]⟩, num s.press, ⟨#[110, 101, 97, 114]⟩, num s.near]
def treeT (t : Tree) : List ByteArray := [⟨#[116, 114, 101, 101]⟩, t.tag, num t.x, num t.y, ⟨#[103, 105, 114, 116, 104]⟩, num t.gl, num t.gh, ⟨#[99, 114, 111, 119, 110]⟩, num t.cr]
def linesL (ts : List Tree) : List UInt8 := ts.flatMap fun t => lineL (treeT t)
def printL (s : Stand) : List UInt8 := lineL (headT s) ++ linesL s.ts
theorem headB_of {s : Stand} (h : checkE s = 0) : (0 ≤ s.lo ∧ s.lo ≤ 100) ∧ (0 ≤ s.hi ∧ s.hi ≤ 100) ∧ (0 ≤ s.press ∧ s.press ≤ 100) ∧ (0 ≤ s.near ∧ s.near ≤ 100000) ∧ s.ts.length ≤ 14 ∧ ∀ t ∈ s.ts, treeB t = true := by
  have hs := (valid_of h).1
  have hs' := hs
  simp only [standB, headB, Bool.and_eq_true, decide_eq_true_eq, frB_iff, spanB_iff] at hs'
  refine ⟨by omega, by omega, by omega, by omega, by omega, fun t ht => treesB_ok _ _ hs'.2 t ht⟩
theorem head_len {s : Stand} (h : checkE s = 0) : (Lib.join ((headT s).map (·.data.toList)) [32]).length ≤ 1000 := by
  obtain ⟨h1, h2, h3, h4, _, _⟩ := headB_of h
  have := join_len ((headT s).map (·.data.toList))
  have a1 := num_len (n := s.lo) (by omega); have a2 := num_len (n := s.hi) (by omega); have a3 := num_len (n := s.press) (by omega); have a4 := num_len (n := s.near) (by omega)
  simp only [lenS, headT, List.map_cons, List.map_nil, List.sum_cons, List.sum_nil, List.length_cons, List.length_nil] at this
  simp only [headT, List.map_cons, List.map_nil]
  omega
theorem treeB_nums {t : Tree} (h : treeB t = true) : t.tag.size ≤ 16 ∧ (0 ≤ t.x ∧ t.x ≤ 100000) ∧ (0 ≤ t.y ∧ t.y ≤ 100000) ∧ (0 ≤ t.gl ∧ t.gl ≤ 4000) ∧ (0 ≤ t.gh ∧ t.gh ≤ 4000) ∧ (0 ≤ t.cr ∧ t.cr ≤ 100) := by
  simp only [treeB, wordB, Bool.and_eq_true, decide_eq_true_eq, frB_iff, spanB_iff, size_len] at h
  omega
theorem tree_len {t : Tree} (h : treeB t = true) : (Lib.join ((treeT t).map (·.data.toList)) [32]).length ≤ 1000 := by
  obtain ⟨h0, h1, h2, h3, h4, h5⟩ := treeB_nums h
  have := join_len ((treeT t).map (·.data.toList))
  have a1 := num_len (n := t.x) (by omega); have a2 := num_len (n := t.y) (by omega); have a3 := num_len (n := t.gl) (by omega); have a4 := num_len (n := t.gh) (by omega); have a5 := num_len (n := t.cr) (by omega)
  rw [← size_len] at h0
  simp only [lenS, treeT, List.map_cons, List.map_nil, List.sum_cons, List.sum_nil, List.length_cons, List.length_nil] at this
  simp only [treeT, List.map_cons, List.map_nil]
  omega
theorem line_cell8 {lo hi pr ne : Int} {ts : List Tree} {j : Nat} {y : ByteArray} (h : (headT ⟨ts, lo, hi, pr, ne⟩)[j]? = some y) : (#[.string ⟨#[115, 116, 97, 110, 100]⟩, .string ⟨#[103, 114, 111, 119]⟩, .string ⟨(Lib.itoa lo).toArray⟩, .string ⟨(Lib.itoa hi).toArray⟩, .string ⟨#[112, 114, 101, 115, 115]⟩, .string ⟨(Lib.itoa pr).toArray⟩, .string ⟨#[110, 101, 97, 114]⟩, .string ⟨(Lib.itoa ne).toArray⟩] : Array Value)[j]? = some (.string y) := by
  have e : (#[.string ⟨#[115, 116, 97, 110, 100]⟩, .string ⟨#[103, 114, 111, 119]⟩, .string ⟨(Lib.itoa lo).toArray⟩, .string ⟨(Lib.itoa hi).toArray⟩, .string ⟨#[112, 114, 101, 115, 115]⟩, .string ⟨(Lib.itoa pr).toArray⟩, .string ⟨#[110, 101, 97, 114]⟩, .string ⟨(Lib.itoa ne).toArray⟩] : Array Value) = ((headT ⟨ts, lo, hi, pr, ne⟩).map Value.string).toArray := rfl
  rw [e]; simp [h]
theorem line_cell9 {tag : ByteArray} {x y gl gh cr : Int} {j : Nat} {z : ByteArray} (h : (treeT ⟨tag, x, y, gl, gh, cr⟩)[j]? = some z) : (#[.string ⟨#[116, 114, 101, 101]⟩, .string tag, .string ⟨(Lib.itoa x).toArray⟩, .string ⟨(Lib.itoa y).toArray⟩, .string ⟨#[103, 105, 114, 116, 104]⟩, .string ⟨(Lib.itoa gl).toArray⟩, .string ⟨(Lib.itoa gh).toArray⟩, .string ⟨#[99, 114, 111, 119, 110]⟩, .string ⟨(Lib.itoa cr).toArray⟩] : Array Value)[j]? = some (.string z) := by
  have e : (#[.string ⟨#[116, 114, 101, 101]⟩, .string tag, .string ⟨(Lib.itoa x).toArray⟩, .string ⟨(Lib.itoa y).toArray⟩, .string ⟨#[103, 105, 114, 116, 104]⟩, .string ⟨(Lib.itoa gl).toArray⟩, .string ⟨(Lib.itoa gh).toArray⟩, .string ⟨#[99, 114, 111, 119, 110]⟩, .string ⟨(Lib.itoa cr).toArray⟩] : Array Value) = ((treeT ⟨tag, x, y, gl, gh, cr⟩).map Value.string).toArray := rfl
  rw [e]; simp [h]
set_option maxRecDepth 100000 in
set_option maxHeartbeats 4000000 in
theorem print_any (a : Option Addr) (n c : Nat) (ts : List Tree) (lo hi pr ne : Int) (w : World) (hT : Trees w a n c ts) (hP : Tab w) :
    Calls Tryd.prog 39 #[.agg #[.slice a n c, .int .i64 lo, .int .i64 hi, .int .i64 pr, .int .i64 ne]] w fun e w' =>
      e = .returned (.tuple #[.string (if checkE ⟨ts, lo, hi, pr, ne⟩ = 0 then ⟨(printL ⟨ts, lo, hi, pr, ne⟩).toArray⟩ else ⟨#[]⟩), .int .i64 (checkE ⟨ts, lo, hi, pr, ne⟩)]) ∧ Below w.heap.size w w' := by
  have hT0 := hT
  obtain ⟨hn, hat, htags, hfit, hcap⟩ := hT
  subst hn
  have HX : Hid (∀ W, Below (w.heap.size + 1) ((w.alloc (.cells #[.slice a ts.length c, .int .i64 lo, .int .i64 hi, .int .i64 pr, .int .i64 ne] 29))) W → Box W w.heap.size #[.slice a ts.length c, .int .i64 lo, .int .i64 hi, .int .i64 pr, .int .i64 ne] 29 ∧ Trees W a ts.length c ts ∧ w.heap.size < W.heap.size ∧ Below w.heap.size w W ∧ Tab W) := Lib.hid fun W h => by
    have hB : Below w.heap.size w W := ((Below.refl _ _).alloc (Nat.le_refl _) _).trans (h.mono (by omega))
    exact ⟨(Box.new w _ _).below h (by omega), hT0.below hB, by have := h.size; simp at this; omega, hB, hP.below hB⟩
  clear hT0 hP
  obtain ⟨x, hx⟩ : ∃ x, x = checkE ⟨ts, lo, hi, pr, ne⟩ := ⟨_, rfl⟩
  have HXE := Lib.hid hx
  rw [← hx]
  clear hx
  by_cases h0 : x = 0
  case neg =>
    have h0' : (x != 0) = true := by simpa using h0
    go_enter Tryd.func39, Tryd.ntmps39
    go_wp2_with (go_at_call 20; refine (check_any a ts.length c ts lo hi pr ne _ (HX.out _ (Below.refl _ _)).2.1).mono ?_; rintro e w1 ⟨rfl, hb1⟩; rw [← HXE.out])
    exact bodyPost_ret (v := .tuple #[.string ⟨#[]⟩, .int .i64 x]) (by simp [results, Tryd.results39, go_sem]) rfl ⟨by first | rfl | rw [if_neg h0], (HX.out _ (hb1.mono (by simp))).2.2.2.1⟩
  have hE : checkE ⟨ts, lo, hi, pr, ne⟩ = 0 := by rw [← HXE.out]; exact h0
  obtain ⟨⟨n1, n2⟩, ⟨n3, n4⟩, ⟨n5, n6⟩, ⟨n7, n8⟩, h14, hTB⟩ := headB_of hE
  have HL := Lib.hid (head_len hE)
  dsimp only at n1 n2 n3 n4 n5 n6 n7 n8 h14 hTB
  have HTB := Lib.hid hTB
  have h0' : (x != 0) = false := by simpa using h0
  rw [if_pos h0]
  have HX0 := Lib.hid h0
  clear hE hTB h0
  go_enter Tryd.func39, Tryd.ntmps39
  go_wp2_with (go_at_call 20; refine (check_any a ts.length c ts lo hi pr ne _ (HX.out _ (Below.refl _ _)).2.1).mono ?_; rintro e w1 ⟨rfl, hb1⟩; rw [← HXE.out])
  have hS1 : Below (w.heap.size + 1) ((w.alloc (.cells #[.slice a ts.length c, .int .i64 lo, .int .i64 hi, .int .i64 pr, .int .i64 ne] 29))) w1.drew := (hb1.mono (by simp)).drew
  clear hb1
  refine region_seq (fun W => Below (w.heap.size + 1) ((w.alloc (.cells #[.slice a ts.length c, .int .i64 lo, .int .i64 hi, .int .i64 pr, .int .i64 ne] 29))) W) [(0, true), (1, true), (2, true), (3, true), (5, true), (6, true), (7, true), (8, true), (10, true), (11, true), (12, true), (14, true), (15, true), (16, true), (4, false), (9, false), (13, false), (17, false), (18, false), (19, false), (20, true)]
    (by kernel_rfl) (by kernel_rfl) (by kernel_rfl) (by simp) (fun _ _ _ _ h => h) hS1 ?_
  iterate 3 (refine SeqW.take (v := ?_) rfl (by rfl) (fun W hW => ?_) ?_; rotate_left; (go_simp; with_reducible rfl); simp only [Act.put, List.setIfInBounds_toArray, List.set_cons_zero, List.set_cons_succ])
  (refine SeqW.take (v := ?_) rfl (by rfl) (fun W hW => ?_) ?_; rotate_left; (obtain ⟨q0, _⟩ := HX.out W hW; have b1 : W.cell? ⟨w.heap.size, 1, none⟩ = some (.int .i64 lo) := q0.cell 1; have b2 : W.cell? ⟨w.heap.size, 2, none⟩ = some (.int .i64 hi) := q0.cell 2; have b3 : W.cell? ⟨w.heap.size, 3, none⟩ = some (.int .i64 pr) := q0.cell 3; have b4 : W.cell? ⟨w.heap.size, 4, none⟩ = some (.int .i64 ne) := q0.cell 4; clear q0 hW; go_simp; with_reducible rfl); simp only [Act.put, List.setIfInBounds_toArray, List.set_cons_zero, List.set_cons_succ])
  iterate 3 (refine SeqW.take (v := ?_) rfl (by rfl) (fun W hW => ?_) ?_; rotate_left; (go_simp; with_reducible rfl); simp only [Act.put, List.setIfInBounds_toArray, List.set_cons_zero, List.set_cons_succ])
  (refine SeqW.take (v := ?_) rfl (by rfl) (fun W hW => ?_) ?_; rotate_left; (obtain ⟨q0, _⟩ := HX.out W hW; have b1 : W.cell? ⟨w.heap.size, 1, none⟩ = some (.int .i64 lo) := q0.cell 1; have b2 : W.cell? ⟨w.heap.size, 2, none⟩ = some (.int .i64 hi) := q0.cell 2; have b3 : W.cell? ⟨w.heap.size, 3, none⟩ = some (.int .i64 pr) := q0.cell 3; have b4 : W.cell? ⟨w.heap.size, 4, none⟩ = some (.int .i64 ne) := q0.cell 4; clear q0 hW; go_simp; with_reducible rfl); simp only [Act.put, List.setIfInBounds_toArray, List.set_cons_zero, List.set_cons_succ])
  iterate 2 (refine SeqW.take (v := ?_) rfl (by rfl) (fun W hW => ?_) ?_; rotate_left; (go_simp; with_reducible rfl); simp only [Act.put, List.setIfInBounds_toArray, List.set_cons_zero, List.set_cons_succ])
  (refine SeqW.take (v := ?_) rfl (by rfl) (fun W hW => ?_) ?_; rotate_left; (obtain ⟨q0, _⟩ := HX.out W hW; have b1 : W.cell? ⟨w.heap.size, 1, none⟩ = some (.int .i64 lo) := q0.cell 1; have b2 : W.cell? ⟨w.heap.size, 2, none⟩ = some (.int .i64 hi) := q0.cell 2; have b3 : W.cell? ⟨w.heap.size, 3, none⟩ = some (.int .i64 pr) := q0.cell 3; have b4 : W.cell? ⟨w.heap.size, 4, none⟩ = some (.int .i64 ne) := q0.cell 4; clear q0 hW; go_simp; with_reducible rfl); simp only [Act.put, List.setIfInBounds_toArray, List.set_cons_zero, List.set_cons_succ])
  iterate 2 (refine SeqW.take (v := ?_) rfl (by rfl) (fun W hW => ?_) ?_; rotate_left; (go_simp; with_reducible rfl); simp only [Act.put, List.setIfInBounds_toArray, List.set_cons_zero, List.set_cons_succ])
  (refine SeqW.take (v := ?_) rfl (by rfl) (fun W hW => ?_) ?_; rotate_left; (obtain ⟨q0, _⟩ := HX.out W hW; have b1 : W.cell? ⟨w.heap.size, 1, none⟩ = some (.int .i64 lo) := q0.cell 1; have b2 : W.cell? ⟨w.heap.size, 2, none⟩ = some (.int .i64 hi) := q0.cell 2; have b3 : W.cell? ⟨w.heap.size, 3, none⟩ = some (.int .i64 pr) := q0.cell 3; have b4 : W.cell? ⟨w.heap.size, 4, none⟩ = some (.int .i64 ne) := q0.cell 4; clear q0 hW; go_simp; with_reducible rfl); simp only [Act.put, List.setIfInBounds_toArray, List.set_cons_zero, List.set_cons_succ])
  refine SeqW.call rfl (by rfl) (fun K hK => ?_); go_simp
  refine (itoa_any lo _ (by omega) (by omega) (HX.out _ hS1).2.2.2.2).mono ?_
  rintro e w2 ⟨rfl, hb⟩
  have hS2 : Below (w.heap.size + 1) ((w.alloc (.cells #[.slice a ts.length c, .int .i64 lo, .int .i64 hi, .int .i64 pr, .int .i64 ne] 29))) w2 := hS1.trans (hb.mono (by have := hS1.size; simpa using this))
  go_simp
  refine hK.out _ _ hS2 ?_
  clear hK K hb hS1
  refine SeqW.call rfl (by rfl) (fun K hK => ?_); go_simp
  refine (itoa_any hi _ (by omega) (by omega) (HX.out _ hS2).2.2.2.2).mono ?_
  rintro e w3 ⟨rfl, hb⟩
  have hS3 : Below (w.heap.size + 1) ((w.alloc (.cells #[.slice a ts.length c, .int .i64 lo, .int .i64 hi, .int .i64 pr, .int .i64 ne] 29))) w3 := hS2.trans (hb.mono (by have := hS2.size; simpa using this))
  go_simp
  refine hK.out _ _ hS3 ?_
  clear hK K hb hS2
  refine SeqW.call rfl (by rfl) (fun K hK => ?_); go_simp
  refine (itoa_any pr _ (by omega) (by omega) (HX.out _ hS3).2.2.2.2).mono ?_
  rintro e w4 ⟨rfl, hb⟩
  have hS4 : Below (w.heap.size + 1) ((w.alloc (.cells #[.slice a ts.length c, .int .i64 lo, .int .i64 hi, .int .i64 pr, .int .i64 ne] 29))) w4 := hS3.trans (hb.mono (by have := hS3.size; simpa using this))
  go_simp
  refine hK.out _ _ hS4 ?_
  clear hK K hb hS3
  refine SeqW.call rfl (by rfl) (fun K hK => ?_); go_simp
  refine (itoa_any ne _ (by omega) (by omega) (HX.out _ hS4).2.2.2.2).mono ?_
  rintro e w5 ⟨rfl, hb⟩
  have hS5 : Below (w.heap.size + 1) ((w.alloc (.cells #[.slice a ts.length c, .int .i64 lo, .int .i64 hi, .int .i64 pr, .int .i64 ne] 29))) w5 := hS4.trans (hb.mono (by have := hS4.size; simpa using this))
  go_simp
  refine hK.out _ _ hS5 ?_
  clear hK K hb hS4
  refine SeqW.call rfl (by rfl) (fun K hK => ?_); go_simp
  have hS6 := hS5.alloc (by have := hS5.size; simp at this; omega) (.cells #[.string ⟨#[115, 116, 97, 110, 100]⟩, .string ⟨#[103, 114, 111, 119]⟩, .string ⟨(Lib.itoa lo).toArray⟩, .string ⟨(Lib.itoa hi).toArray⟩, .string ⟨#[112, 114, 101, 115, 115]⟩, .string ⟨(Lib.itoa pr).toArray⟩, .string ⟨#[110, 101, 97, 114]⟩, .string ⟨(Lib.itoa ne).toArray⟩] 9)
  have hBx := Box.new w5 #[.string ⟨#[115, 116, 97, 110, 100]⟩, .string ⟨#[103, 114, 111, 119]⟩, .string ⟨(Lib.itoa lo).toArray⟩, .string ⟨(Lib.itoa hi).toArray⟩, .string ⟨#[112, 114, 101, 115, 115]⟩, .string ⟨(Lib.itoa pr).toArray⟩, .string ⟨#[110, 101, 97, 114]⟩, .string ⟨(Lib.itoa ne).toArray⟩] 9
  refine hK.out _ _ hS6 ?_
  clear hK K
  refine SeqW.call rfl (by rfl) (fun K hK => ?_); go_simp
  refine (line_any w5.heap.size 8 (headT ⟨ts, lo, hi, pr, ne⟩) _ (fun j y hj => by rw [Nat.zero_add, hBx.cell]; exact line_cell8 hj) (by simp) (by simp [headT]) (by simp [headT]) (by have := HL.out; omega)).mono ?_
  rintro e w7 ⟨rfl, hb⟩
  have hS7 : Below (w.heap.size + 1) ((w.alloc (.cells #[.slice a ts.length c, .int .i64 lo, .int .i64 hi, .int .i64 pr, .int .i64 ne] 29))) w7 := hS6.trans (hb.mono (by have := hS6.size; simpa using this))
  go_simp
  refine hK.out _ _ hS7 ?_
  clear hK K hb hS6 hBx hS5
  (refine SeqW.take (v := ?_) rfl (by rfl) (fun W hW => ?_) ?_; rotate_left; (go_simp; with_reducible rfl); simp only [Act.put, List.setIfInBounds_toArray, List.set_cons_zero, List.set_cons_succ])
  refine SeqW.done ?_
  obtain ⟨T0, hT0⟩ : ∃ T0 : ByteArray, T0 = ⟨(lineL (headT ⟨ts, lo, hi, pr, ne⟩)).toArray⟩ := ⟨_, rfl⟩
  rw [← hT0]
  have HT0 := Lib.hid (show T0.data.toList = lineL (headT ⟨ts, lo, hi, pr, ne⟩) by rw [hT0])
  have hTz : T0.size ≤ 1001 * (0 + 1) := by
    have := HL.out
    rw [← size_len, HT0.out]
    simp only [lineL, List.length_append, List.length_singleton]; omega
  have s0 : w7.cell? ⟨w.heap.size, 0, none⟩ = some (.slice a ts.length c) := (HX.out _ hS7).1.cell 0
  clear hT0 HL
  go_wp2_with fail
  go_loopw [6, 37] (fun tv i wr => ∃ (k : Nat) (T : ByteArray), k ≤ ts.length ∧ i = .int .i64 k ∧ tv = .string T ∧ Hid (T.data.toList = lineL (headT ⟨ts, lo, hi, pr, ne⟩) ++ linesL (ts.take k)) ∧ T.size ≤ 1001 * (k + 1) ∧ Below (w.heap.size + 1) ((w.alloc (.cells #[.slice a ts.length c, .int .i64 lo, .int .i64 hi, .int .i64 pr, .int .i64 ne] 29))) wr) (fun _ i _ => ts.length - (intOf i).toNat)
  case atStart => exact ⟨0, T0, Nat.zero_le _, rfl, rfl, Lib.hid (by rw [HT0.out]; simp [linesL]), hTz, hS7⟩
  case round =>
    obtain ⟨k, T, hk, rfl, rfl, HT, hz, hB⟩ := hrel
    clear hTz HT0 hS7 s0
    by_cases hlt : k < ts.length
    · obtain ⟨t, ht⟩ : ∃ t, ts[k]? = some t := ⟨_, List.getElem?_eq_getElem hlt⟩
      have htb := HTB.out t (List.mem_of_getElem? ht)
      obtain ⟨bX, hTr, hz0, hB0, hTab⟩ := HX.out wr hB
      rcases hTr.at_ with rfl | ⟨b, off, rfl, hbl, hTA⟩
      · simp at hlt
      obtain ⟨c0, c1, c2, c3, c4, c5⟩ := hTA k t ht
      have HST : Hid (linesL (ts.take (k + 1)) = linesL (ts.take k) ++ lineL (treeT t)) := Lib.hid (by rw [List.take_add_one, ht]; simp [linesL])
      have HTL := Lib.hid (tree_len htb)
      obtain ⟨t0, ⟨t1, t2⟩, ⟨t3, t4⟩, ⟨t5, t6⟩, ⟨t7, t8⟩, ⟨t9, t10⟩⟩ := treeB_nums htb
      obtain ⟨tag, x, y, gl, gh, cr⟩ := t
      dsimp only at t0 t1 t2 t3 t4 t5 t6 t7 t8 t9 t10 c0 c1 c2 c3 c4 c5
      have HR : Hid (∀ W, Below (wr.heap.size + 1) ((wr.alloc (.cells #[.string tag, .int .i64 x, .int .i64 y, .int .i64 gl, .int .i64 gh, .int .i64 cr] 62))) W → Box W wr.heap.size #[.string tag, .int .i64 x, .int .i64 y, .int .i64 gl, .int .i64 gh, .int .i64 cr] 62 ∧ Below wr.heap.size wr W ∧ Tab W ∧ wr.heap.size < W.heap.size) := Lib.hid fun W h => by
        have hbb : Below wr.heap.size wr W := ((Below.refl _ _).alloc (Nat.le_refl _) _).trans (h.mono (by omega))
        exact ⟨(Box.new wr _ _).below h (by omega), hbb, hTab.below hbb, by have := h.size; simp at this; omega⟩
      clear hTA hTr ht htb
      go_wp2_with fail
      have hR1 : Below (wr.heap.size + 1) ((wr.alloc (.cells #[.string tag, .int .i64 x, .int .i64 y, .int .i64 gl, .int .i64 gh, .int .i64 cr] 62))) ((wr.alloc (.cells #[.string tag, .int .i64 x, .int .i64 y, .int .i64 gl, .int .i64 gh, .int .i64 cr] 62))).drew := (Below.refl _ _).drew
      refine region_seq (fun W => Below (wr.heap.size + 1) ((wr.alloc (.cells #[.string tag, .int .i64 x, .int .i64 y, .int .i64 gl, .int .i64 gh, .int .i64 cr] 62))) W) [(0, true), (1, true), (2, true), (3, true), (4, true), (5, true), (7, true), (8, true), (9, true), (11, true), (12, true), (13, true), (14, true), (16, true), (17, true), (18, true), (19, true), (21, true), (22, true), (23, true), (6, false), (10, false), (15, false), (20, false), (24, false), (25, false), (26, false), (27, true), (28, true)]
        (by kernel_rfl) (by kernel_rfl) (by kernel_rfl) (by simp) (fun _ _ _ _ h => h) hR1 ?_
      iterate 2 (refine SeqW.take (v := ?_) rfl (by rfl) (fun W hW => ?_) ?_; rotate_left; (go_simp; with_reducible rfl); simp only [Act.put, List.setIfInBounds_toArray, List.set_cons_zero, List.set_cons_succ])
      (refine SeqW.take (v := ?_) rfl (by rfl) (fun W hW => ?_) ?_; rotate_left; (obtain ⟨q0, _⟩ := HR.out W hW; have b0 : W.cell? ⟨wr.heap.size, 0, none⟩ = some (.string tag) := q0.cell 0; have b1 : W.cell? ⟨wr.heap.size, 1, none⟩ = some (.int .i64 x) := q0.cell 1; have b2 : W.cell? ⟨wr.heap.size, 2, none⟩ = some (.int .i64 y) := q0.cell 2; have b3 : W.cell? ⟨wr.heap.size, 3, none⟩ = some (.int .i64 gl) := q0.cell 3; have b4 : W.cell? ⟨wr.heap.size, 4, none⟩ = some (.int .i64 gh) := q0.cell 4; have b5 : W.cell? ⟨wr.heap.size, 5, none⟩ = some (.int .i64 cr) := q0.cell 5; clear q0 hW; go_simp; with_reducible rfl); simp only [Act.put, List.setIfInBounds_toArray, List.set_cons_zero, List.set_cons_succ])
      iterate 2 (refine SeqW.take (v := ?_) rfl (by rfl) (fun W hW => ?_) ?_; rotate_left; (go_simp; with_reducible rfl); simp only [Act.put, List.setIfInBounds_toArray, List.set_cons_zero, List.set_cons_succ])
      (refine SeqW.take (v := ?_) rfl (by rfl) (fun W hW => ?_) ?_; rotate_left; (obtain ⟨q0, _⟩ := HR.out W hW; have b0 : W.cell? ⟨wr.heap.size, 0, none⟩ = some (.string tag) := q0.cell 0; have b1 : W.cell? ⟨wr.heap.size, 1, none⟩ = some (.int .i64 x) := q0.cell 1; have b2 : W.cell? ⟨wr.heap.size, 2, none⟩ = some (.int .i64 y) := q0.cell 2; have b3 : W.cell? ⟨wr.heap.size, 3, none⟩ = some (.int .i64 gl) := q0.cell 3; have b4 : W.cell? ⟨wr.heap.size, 4, none⟩ = some (.int .i64 gh) := q0.cell 4; have b5 : W.cell? ⟨wr.heap.size, 5, none⟩ = some (.int .i64 cr) := q0.cell 5; clear q0 hW; go_simp; with_reducible rfl); simp only [Act.put, List.setIfInBounds_toArray, List.set_cons_zero, List.set_cons_succ])
      iterate 2 (refine SeqW.take (v := ?_) rfl (by rfl) (fun W hW => ?_) ?_; rotate_left; (go_simp; with_reducible rfl); simp only [Act.put, List.setIfInBounds_toArray, List.set_cons_zero, List.set_cons_succ])
      (refine SeqW.take (v := ?_) rfl (by rfl) (fun W hW => ?_) ?_; rotate_left; (obtain ⟨q0, _⟩ := HR.out W hW; have b0 : W.cell? ⟨wr.heap.size, 0, none⟩ = some (.string tag) := q0.cell 0; have b1 : W.cell? ⟨wr.heap.size, 1, none⟩ = some (.int .i64 x) := q0.cell 1; have b2 : W.cell? ⟨wr.heap.size, 2, none⟩ = some (.int .i64 y) := q0.cell 2; have b3 : W.cell? ⟨wr.heap.size, 3, none⟩ = some (.int .i64 gl) := q0.cell 3; have b4 : W.cell? ⟨wr.heap.size, 4, none⟩ = some (.int .i64 gh) := q0.cell 4; have b5 : W.cell? ⟨wr.heap.size, 5, none⟩ = some (.int .i64 cr) := q0.cell 5; clear q0 hW; go_simp; with_reducible rfl); simp only [Act.put, List.setIfInBounds_toArray, List.set_cons_zero, List.set_cons_succ])
      iterate 3 (refine SeqW.take (v := ?_) rfl (by rfl) (fun W hW => ?_) ?_; rotate_left; (go_simp; with_reducible rfl); simp only [Act.put, List.setIfInBounds_toArray, List.set_cons_zero, List.set_cons_succ])
      (refine SeqW.take (v := ?_) rfl (by rfl) (fun W hW => ?_) ?_; rotate_left; (obtain ⟨q0, _⟩ := HR.out W hW; have b0 : W.cell? ⟨wr.heap.size, 0, none⟩ = some (.string tag) := q0.cell 0; have b1 : W.cell? ⟨wr.heap.size, 1, none⟩ = some (.int .i64 x) := q0.cell 1; have b2 : W.cell? ⟨wr.heap.size, 2, none⟩ = some (.int .i64 y) := q0.cell 2; have b3 : W.cell? ⟨wr.heap.size, 3, none⟩ = some (.int .i64 gl) := q0.cell 3; have b4 : W.cell? ⟨wr.heap.size, 4, none⟩ = some (.int .i64 gh) := q0.cell 4; have b5 : W.cell? ⟨wr.heap.size, 5, none⟩ = some (.int .i64 cr) := q0.cell 5; clear q0 hW; go_simp; with_reducible rfl); simp only [Act.put, List.setIfInBounds_toArray, List.set_cons_zero, List.set_cons_succ])
      iterate 3 (refine SeqW.take (v := ?_) rfl (by rfl) (fun W hW => ?_) ?_; rotate_left; (go_simp; with_reducible rfl); simp only [Act.put, List.setIfInBounds_toArray, List.set_cons_zero, List.set_cons_succ])
      (refine SeqW.take (v := ?_) rfl (by rfl) (fun W hW => ?_) ?_; rotate_left; (obtain ⟨q0, _⟩ := HR.out W hW; have b0 : W.cell? ⟨wr.heap.size, 0, none⟩ = some (.string tag) := q0.cell 0; have b1 : W.cell? ⟨wr.heap.size, 1, none⟩ = some (.int .i64 x) := q0.cell 1; have b2 : W.cell? ⟨wr.heap.size, 2, none⟩ = some (.int .i64 y) := q0.cell 2; have b3 : W.cell? ⟨wr.heap.size, 3, none⟩ = some (.int .i64 gl) := q0.cell 3; have b4 : W.cell? ⟨wr.heap.size, 4, none⟩ = some (.int .i64 gh) := q0.cell 4; have b5 : W.cell? ⟨wr.heap.size, 5, none⟩ = some (.int .i64 cr) := q0.cell 5; clear q0 hW; go_simp; with_reducible rfl); simp only [Act.put, List.setIfInBounds_toArray, List.set_cons_zero, List.set_cons_succ])
      iterate 2 (refine SeqW.take (v := ?_) rfl (by rfl) (fun W hW => ?_) ?_; rotate_left; (go_simp; with_reducible rfl); simp only [Act.put, List.setIfInBounds_toArray, List.set_cons_zero, List.set_cons_succ])
      (refine SeqW.take (v := ?_) rfl (by rfl) (fun W hW => ?_) ?_; rotate_left; (obtain ⟨q0, _⟩ := HR.out W hW; have b0 : W.cell? ⟨wr.heap.size, 0, none⟩ = some (.string tag) := q0.cell 0; have b1 : W.cell? ⟨wr.heap.size, 1, none⟩ = some (.int .i64 x) := q0.cell 1; have b2 : W.cell? ⟨wr.heap.size, 2, none⟩ = some (.int .i64 y) := q0.cell 2; have b3 : W.cell? ⟨wr.heap.size, 3, none⟩ = some (.int .i64 gl) := q0.cell 3; have b4 : W.cell? ⟨wr.heap.size, 4, none⟩ = some (.int .i64 gh) := q0.cell 4; have b5 : W.cell? ⟨wr.heap.size, 5, none⟩ = some (.int .i64 cr) := q0.cell 5; clear q0 hW; go_simp; with_reducible rfl); simp only [Act.put, List.setIfInBounds_toArray, List.set_cons_zero, List.set_cons_succ])
      refine SeqW.call rfl (by rfl) (fun K hK => ?_); go_simp
      refine (itoa_any x _ (by omega) (by omega) (HR.out _ hR1).2.2.1).mono ?_
      rintro e w2 ⟨rfl, hb⟩
      have hR2 : Below (wr.heap.size + 1) ((wr.alloc (.cells #[.string tag, .int .i64 x, .int .i64 y, .int .i64 gl, .int .i64 gh, .int .i64 cr] 62))) w2 := hR1.trans (hb.mono (by simp))
      go_simp
      refine hK.out _ _ hR2 ?_
      clear hK K hb hR1
      refine SeqW.call rfl (by rfl) (fun K hK => ?_); go_simp
      refine (itoa_any y _ (by omega) (by omega) (HR.out _ hR2).2.2.1).mono ?_
      rintro e w3 ⟨rfl, hb⟩
      have hR3 : Below (wr.heap.size + 1) ((wr.alloc (.cells #[.string tag, .int .i64 x, .int .i64 y, .int .i64 gl, .int .i64 gh, .int .i64 cr] 62))) w3 := hR2.trans (hb.mono (by have := hR2.size; simpa using this))
      go_simp
      refine hK.out _ _ hR3 ?_
      clear hK K hb hR2
      refine SeqW.call rfl (by rfl) (fun K hK => ?_); go_simp
      refine (itoa_any gl _ (by omega) (by omega) (HR.out _ hR3).2.2.1).mono ?_
      rintro e w4 ⟨rfl, hb⟩
      have hR4 : Below (wr.heap.size + 1) ((wr.alloc (.cells #[.string tag, .int .i64 x, .int .i64 y, .int .i64 gl, .int .i64 gh, .int .i64 cr] 62))) w4 := hR3.trans (hb.mono (by have := hR3.size; simpa using this))
      go_simp
      refine hK.out _ _ hR4 ?_
      clear hK K hb hR3
      refine SeqW.call rfl (by rfl) (fun K hK => ?_); go_simp
      refine (itoa_any gh _ (by omega) (by omega) (HR.out _ hR4).2.2.1).mono ?_
      rintro e w5 ⟨rfl, hb⟩
      have hR5 : Below (wr.heap.size + 1) ((wr.alloc (.cells #[.string tag, .int .i64 x, .int .i64 y, .int .i64 gl, .int .i64 gh, .int .i64 cr] 62))) w5 := hR4.trans (hb.mono (by have := hR4.size; simpa using this))
      go_simp
      refine hK.out _ _ hR5 ?_
      clear hK K hb hR4
      refine SeqW.call rfl (by rfl) (fun K hK => ?_); go_simp
      refine (itoa_any cr _ (by omega) (by omega) (HR.out _ hR5).2.2.1).mono ?_
      rintro e w6 ⟨rfl, hb⟩
      have hR6 : Below (wr.heap.size + 1) ((wr.alloc (.cells #[.string tag, .int .i64 x, .int .i64 y, .int .i64 gl, .int .i64 gh, .int .i64 cr] 62))) w6 := hR5.trans (hb.mono (by have := hR5.size; simpa using this))
      go_simp
      refine hK.out _ _ hR6 ?_
      clear hK K hb hR5
      refine SeqW.call rfl (by rfl) (fun K hK => ?_); go_simp
      have hR7 := hR6.alloc (by have := hR6.size; simp at this; omega) (.cells #[.string ⟨#[116, 114, 101, 101]⟩, .string tag, .string ⟨(Lib.itoa x).toArray⟩, .string ⟨(Lib.itoa y).toArray⟩, .string ⟨#[103, 105, 114, 116, 104]⟩, .string ⟨(Lib.itoa gl).toArray⟩, .string ⟨(Lib.itoa gh).toArray⟩, .string ⟨#[99, 114, 111, 119, 110]⟩, .string ⟨(Lib.itoa cr).toArray⟩] 9)
      have hBx := Box.new w6 #[.string ⟨#[116, 114, 101, 101]⟩, .string tag, .string ⟨(Lib.itoa x).toArray⟩, .string ⟨(Lib.itoa y).toArray⟩, .string ⟨#[103, 105, 114, 116, 104]⟩, .string ⟨(Lib.itoa gl).toArray⟩, .string ⟨(Lib.itoa gh).toArray⟩, .string ⟨#[99, 114, 111, 119, 110]⟩, .string ⟨(Lib.itoa cr).toArray⟩] 9
      refine hK.out _ _ hR7 ?_
      clear hK K
      refine SeqW.call rfl (by rfl) (fun K hK => ?_); go_simp
      refine (line_any w6.heap.size 9 (treeT ⟨tag, x, y, gl, gh, cr⟩) _ (fun j y hj => by rw [Nat.zero_add, hBx.cell]; exact line_cell9 hj) (by simp) (by simp [treeT]) (by simp [treeT]) (by have := HTL.out; omega)).mono ?_
      rintro e w8 ⟨rfl, hb⟩
      have hR8 : Below (wr.heap.size + 1) ((wr.alloc (.cells #[.string tag, .int .i64 x, .int .i64 y, .int .i64 gl, .int .i64 gh, .int .i64 cr] 62))) w8 := hR7.trans (hb.mono (by have := hR7.size; simpa using this))
      go_simp
      refine hK.out _ _ hR8 ?_
      clear hK K hb hR7 hBx hR6
      obtain ⟨Lb, hLb⟩ : ∃ Lb : ByteArray, Lb = ⟨(lineL (treeT ⟨tag, x, y, gl, gh, cr⟩)).toArray⟩ := ⟨_, rfl⟩
      rw [← hLb]
      have HLb := Lib.hid (show Lb.data.toList = lineL (treeT ⟨tag, x, y, gl, gh, cr⟩) by rw [hLb])
      have hLz : Lb.size ≤ 1001 := by
        have := HTL.out
        rw [← size_len, HLb.out]
        simp only [lineL, List.length_append, List.length_singleton]; omega
      clear hLb
      (refine SeqW.take (v := ?_) rfl (by rfl) (fun W hW => ?_) ?_; rotate_left; (go_simp; rw [if_neg (by omega)]); simp only [Act.put, List.setIfInBounds_toArray, List.set_cons_zero, List.set_cons_succ])
      (refine SeqW.take (v := ?_) rfl (by rfl) (fun W hW => ?_) ?_; rotate_left; (go_simp; with_reducible rfl); simp only [Act.put, List.setIfInBounds_toArray, List.set_cons_zero, List.set_cons_succ])
      refine SeqW.done ?_
      go_wp2_with fail
      go_roundw
      case rel => exact ⟨k + 1, T ++ Lb, by omega, by go_num, rfl, Lib.hid (by rw [ByteArray.data_append, Array.toList_append, HT.out, HLb.out, HST.out, List.append_assoc]), by rw [ByteArray.size_append]; omega, hB.trans ((HR.out _ hR8).2.1.mono (by omega))⟩
      case measure => simp [intOf]; omega
    · go_wp2_with fail
      exact bodyPost_ret (v := .tuple #[.string T, .int .i64 0]) (by simp [results, Tryd.results39, go_sem]) rfl ⟨by
        have e : T = ⟨(printL ⟨ts, lo, hi, pr, ne⟩).toArray⟩ := by
          apply ByteArray.ext; apply Array.ext'
          rw [HT.out, List.take_of_length_le (by omega)]; rfl
        rw [e, HX0.out], (HX.out _ hB).2.2.2.1⟩
end Go.Proofs.YtpkjjiieglebbaaDoor
