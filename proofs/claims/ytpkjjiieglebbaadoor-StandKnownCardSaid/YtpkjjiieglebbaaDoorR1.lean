/- Contracts of the reference's comparisons: of lists of texts, and of stands. Conditions: they lie in memory as told; texts fit into memory. -/
import Derived.Test.YtpkjjiieglebbaaDoorR0
import Derived.Test.YtpkjjiieglebbaaDoorC
import Derived.DeepKeys
namespace Go.Proofs.YtpkjjiieglebbaaDoor
open Go Go.RowKit
/-- A list of texts in memory. -/
def TextsAt (w : World) (a : Option Addr) (n : Nat) (l : List ByteArray) : Prop :=
  n = l.length ∧ (l = [] ∨ ∃ b off, a = some ⟨b, off, none⟩ ∧ b < w.heap.size ∧ ∀ (i : Nat) (x : ByteArray), l[i]? = some x → w.cell? ⟨b, off + i, none⟩ = some (.string x))
theorem TextsAt.below {w w' : World} {a : Option Addr} {n : Nat} {l : List ByteArray} (h : TextsAt w a n l) (hb : Below w.heap.size w w') : TextsAt w' a n l :=
  ⟨h.1, h.2.imp id fun ⟨b, off, e, hl, hc⟩ => ⟨b, off, e, Nat.lt_of_lt_of_le hl hb.size, fun i x hx => (hb.cell (by exact hl)).trans (hc i x hx)⟩⟩
def eqT (x y : ByteArray) : Bool := x.toList == y.toList
def textsB : List ByteArray → List ByteArray → Bool
  | [], [] => true
  | x :: l, y :: m => eqT x y && textsB l m
  | _, _ => false
theorem textsB_len : ∀ {l m : List ByteArray}, l.length ≠ m.length → textsB l m = false
  | [], [], h => absurd rfl h
  | [], _ :: _, _ => rfl
  | _ :: _, [], _ => rfl
  | x :: l, y :: m, h => by
    unfold textsB
    rw [textsB_len (l := l) (m := m) (fun e => h (by simp [e]))]; simp
theorem textsB_drop {l m : List ByteArray} {k : Nat} {x y : ByteArray} (hx : l[k]? = some x) (hy : m[k]? = some y) : textsB (l.drop k) (m.drop k) = (eqT x y && textsB (l.drop (k + 1)) (m.drop (k + 1))) := by
  obtain ⟨h1, rfl⟩ := List.getElem?_eq_some_iff.1 hx
  obtain ⟨h2, rfl⟩ := List.getElem?_eq_some_iff.1 hy
  rw [List.drop_eq_getElem_cons h1, List.drop_eq_getElem_cons h2]; rfl
theorem textsB_self : ∀ l : List ByteArray, textsB l l = true
  | [] => rfl
  | x :: l => by unfold textsB eqT; rw [textsB_self l]; simp
set_option maxHeartbeats 1000000 in
theorem sameTexts_any (a b : Option Addr) (n c n' c' : Nat) (l m : List ByteArray) (w : World) (hA : TextsAt w a n l) (hB : TextsAt w b n' m) (hn : n ≤ maxLen) (hn' : n' ≤ maxLen) :
    Calls Tryd.prog 38 #[.slice a n c, .slice b n' c'] w fun e w' => e = .returned (.bool (textsB l m)) ∧ Below w.heap.size w w' := by
  obtain ⟨hl, hA⟩ := hA
  obtain ⟨hm, hB⟩ := hB
  subst hl hm
  unfold maxLen at hn hn'
  have hn1 : l.length ≤ 9223372036854775807 := by omega
  have hn2 : m.length ≤ 9223372036854775807 := by omega
  clear hn hn'
  by_cases hne : l.length = m.length
  case neg =>
    have HF : Hid (textsB l m = false) := Lib.hid (textsB_len hne)
    clear hA hB
    go_enter Tryd.func38, Tryd.ntmps38
    go_wp2_with fail
    go_ret; exact ⟨ret_bool HF.out.symm, Below.refl _ _⟩
  have HNE := Lib.hid hne
  have hnz : ((l.length : Int) != (m.length : Int)) = false := by simp; omega
  have HX : Hid (∀ W, Below w.heap.size w W → (l = [] ∨ ∃ b off, a = some ⟨b, off, none⟩ ∧ b < W.heap.size ∧ ∀ (i : Nat) (x : ByteArray), l[i]? = some x → W.cell? ⟨b, off + i, none⟩ = some (.string x)) ∧ (m = [] ∨ ∃ b' off, b = some ⟨b', off, none⟩ ∧ b' < W.heap.size ∧ ∀ (i : Nat) (x : ByteArray), m[i]? = some x → W.cell? ⟨b', off + i, none⟩ = some (.string x))) := Lib.hid fun W h =>
    ⟨(TextsAt.below (n := l.length) ⟨rfl, hA⟩ h).2, (TextsAt.below (n := m.length) ⟨rfl, hB⟩ h).2⟩
  clear hA hB hne
  go_enter Tryd.func38, Tryd.ntmps38
  go_wp2_with fail
  go_loopw [5] (fun i wr => ∃ k : Nat, k ≤ l.length ∧ i = .int .i64 k ∧ Hid (textsB l m = textsB (l.drop k) (m.drop k)) ∧ Below w.heap.size w wr) (fun i _ => l.length - (intOf i).toNat)
  case atStart => exact ⟨0, Nat.zero_le _, rfl, Lib.hid rfl, Below.refl _ _⟩
  case round =>
    obtain ⟨k, hk, rfl, HK, hB⟩ := hrel
    have hlen := HNE.out
    by_cases hlt : k < l.length
    · obtain ⟨x, hx⟩ : ∃ x, l[k]? = some x := ⟨_, List.getElem?_eq_getElem hlt⟩
      obtain ⟨y, hy⟩ : ∃ y, m[k]? = some y := ⟨_, List.getElem?_eq_getElem (by omega)⟩
      obtain ⟨hP, hQ⟩ := HX.out wr hB
      rcases hP with rfl | ⟨p, off, rfl, hpl, hP⟩
      · simp at hlt
      rcases hQ with rfl | ⟨q, off', rfl, hql, hQ⟩
      · simp at hy
      have c0 := hP k x hx
      have c1 := hQ k y hy
      have hmk : (k : Int) < (m.length : Int) := by omega
      have hst := Lib.hid (textsB_drop hx hy)
      rcases hxy : (x.toList == y.toList) with _ | _
      · have HF : Hid (textsB l m = false) := Lib.hid (by rw [HK.out, hst.out]; unfold eqT; rw [hxy]; rfl)
        clear hP hQ hx hy hlen
        go_wp2_with fail
        go_quiet (fail)
        go_wp2_with fail
        go_ret; exact ⟨ret_bool HF.out.symm, below_drewN hB _⟩
      · have HK1 : Hid (textsB l m = textsB (l.drop (k + 1)) (m.drop (k + 1))) := Lib.hid (by rw [HK.out, hst.out]; unfold eqT; rw [hxy]; simp)
        clear hP hQ hx hy hlen
        go_wp2_with fail
        go_quiet (fail)
        go_wp2_with fail
        go_roundw
        case rel => exact ⟨k + 1, by omega, by go_num, HK1, below_drewN hB _⟩
        case measure => simp [intOf]; omega
    · have HF : Hid (textsB l m = true) := Lib.hid (by
        rw [HK.out, List.drop_of_length_le (by omega), List.drop_of_length_le (by omega)]; rfl)
      clear hlen
      go_wp2_with fail
      go_ret; exact ⟨ret_bool HF.out.symm, hB⟩
def treeQ (t u : Tree) : Bool := eqT t.tag u.tag && (t.x == u.x && (t.y == u.y && ((t.gl == u.gl && t.gh == u.gh) && t.cr == u.cr)))
theorem eql_tree (t u : Tree) (w : World) : (Op.equalIn 10000 62 (.agg #[.string t.tag, .int .i64 t.x, .int .i64 t.y, .int .i64 t.gl, .int .i64 t.gh, .int .i64 t.cr]) (.agg #[.string u.tag, .int .i64 u.x, .int .i64 u.y, .int .i64 u.gl, .int .i64 u.gh, .int .i64 u.cr])).run Tryd.prog w = .ok (treeQ t u) w := by
  unfold treeQ eqT
  rcases h1 : (t.tag.toList == u.tag.toList) with _ | _
  · simp [go_sem, h1]
  rcases h2 : (t.x == u.x) with _ | _
  · simp [go_sem, h1, h2]
  rcases h3 : (t.y == u.y) with _ | _
  · simp [go_sem, h1, h2, h3]
  rcases h4 : (t.gl == u.gl) with _ | _
  · simp [go_sem, h1, h2, h3, h4]
  rcases h5 : (t.gh == u.gh) with _ | _
  · simp [go_sem, h1, h2, h3, h4, h5]
  rcases h6 : (t.cr == u.cr) with _ | _
  · simp [go_sem, h1, h2, h3, h4, h5, h6]
  · simp [go_sem, h1, h2, h3, h4, h5, h6]
def treesQ : List Tree → List Tree → Bool
  | [], [] => true
  | t :: l, u :: m => treeQ t u && treesQ l m
  | _, _ => false
theorem treesQ_drop {l m : List Tree} {k : Nat} {x y : Tree} (hx : l[k]? = some x) (hy : m[k]? = some y) : treesQ (l.drop k) (m.drop k) = (treeQ x y && treesQ (l.drop (k + 1)) (m.drop (k + 1))) := by
  obtain ⟨h1, rfl⟩ := List.getElem?_eq_some_iff.1 hx
  obtain ⟨h2, rfl⟩ := List.getElem?_eq_some_iff.1 hy
  rw [List.drop_eq_getElem_cons h1, List.drop_eq_getElem_cons h2]; rfl
theorem treeQ_self (t : Tree) : treeQ t t = true := by simp [treeQ, eqT]
theorem treesQ_self : ∀ l : List Tree, treesQ l l = true
  | [] => rfl
  | x :: l => by unfold treesQ; rw [treesQ_self l, treeQ_self]; rfl
def standQ (s r : Stand) : Bool := (decide (s.ts.length = r.ts.length) && ((s.lo == r.lo && s.hi == r.hi) && (s.press == r.press && s.near == r.near))) && treesQ s.ts r.ts
theorem eql_span (p q r s : Int) (w : World) : (Op.equalIn 10000 27 (.agg #[.int .i64 p, .int .i64 q]) (.agg #[.int .i64 r, .int .i64 s])).run Tryd.prog w = .ok (p == r && q == s) w := by
  rcases h1 : (p == r) with _ | _
  · simp [go_sem, h1]
  rcases h2 : (q == s) with _ | _
  · simp [go_sem, h1, h2]
  · simp [go_sem, h1, h2]
set_option maxHeartbeats 2000000 in
theorem sameStand_any (a b : Option Addr) (n c n' c' : Nat) (ts us : List Tree) (lo hi pr ne lo' hi' pr' ne' : Int) (w : World) (hA : Trees w a n c ts) (hB : Trees w b n' c' us) :
    Calls Tryd.prog 35 #[.agg #[.slice a n c, .int .i64 lo, .int .i64 hi, .int .i64 pr, .int .i64 ne], .agg #[.slice b n' c', .int .i64 lo', .int .i64 hi', .int .i64 pr', .int .i64 ne']] w fun e w' => e = .returned (.bool (standQ (⟨ts, lo, hi, pr, ne⟩ : Stand) (⟨us, lo', hi', pr', ne'⟩ : Stand))) ∧ Below w.heap.size w w' := by
  have hX0 : Below (w.heap.size + 1 + 1) ((w.alloc (.cells #[.slice a n c, .int .i64 lo, .int .i64 hi, .int .i64 pr, .int .i64 ne] 29)).alloc (.cells #[.slice b n' c', .int .i64 lo', .int .i64 hi', .int .i64 pr', .int .i64 ne'] 29)) ((w.alloc (.cells #[.slice a n c, .int .i64 lo, .int .i64 hi, .int .i64 pr, .int .i64 ne] 29)).alloc (.cells #[.slice b n' c', .int .i64 lo', .int .i64 hi', .int .i64 pr', .int .i64 ne'] 29)) := Below.refl _ _
  have hnA := hA.fits
  have hnB := hB.fits
  have hlA := Lib.hid hA.len
  have hlB := Lib.hid hB.len
  have HX : Hid (∀ W, Below (w.heap.size + 1 + 1) ((w.alloc (.cells #[.slice a n c, .int .i64 lo, .int .i64 hi, .int .i64 pr, .int .i64 ne] 29)).alloc (.cells #[.slice b n' c', .int .i64 lo', .int .i64 hi', .int .i64 pr', .int .i64 ne'] 29)) W → Box W w.heap.size #[.slice a n c, .int .i64 lo, .int .i64 hi, .int .i64 pr, .int .i64 ne] 29 ∧ Box W (w.heap.size + 1) #[.slice b n' c', .int .i64 lo', .int .i64 hi', .int .i64 pr', .int .i64 ne'] 29 ∧ Trees W a n c ts ∧ Trees W b n' c' us ∧ Below w.heap.size w W) := Lib.hid fun W h => by
    have hBB : Below w.heap.size w W := (((Below.refl _ _).alloc (Nat.le_refl _) _).alloc (by simp) _).trans (h.mono (by omega))
    have b1 := Box.new (w.alloc (.cells #[.slice a n c, .int .i64 lo, .int .i64 hi, .int .i64 pr, .int .i64 ne] 29)) #[.slice b n' c', .int .i64 lo', .int .i64 hi', .int .i64 pr', .int .i64 ne'] 29
    rw [World.size_alloc] at b1
    exact ⟨((Box.new w _ _).alloc _).below h (by omega), b1.below h (by omega), hA.below hBB, hB.below hBB, hBB⟩
  clear hA hB
  by_cases h1 : n = n'
  case neg =>
    have HF : Hid (standQ (⟨ts, lo, hi, pr, ne⟩ : Stand) (⟨us, lo', hi', pr', ne'⟩ : Stand) = false) := Lib.hid (by unfold standQ; dsimp only; rw [← hlA.out, ← hlB.out, decide_eq_false h1]; rfl)
    have q1 : ((n : Int) != (n' : Int)) = true := by simp; omega
    go_enter Tryd.func35, Tryd.ntmps35
    go_wp2_with fail
    go_ret; exact ⟨ret_bool HF.out.symm, (HX.out _ hX0).2.2.2.2⟩
  subst h1
  have q1 : ((n : Int) != (n : Int)) = false := by simp
  rcases h2 : (lo == lo' && hi == hi') with _ | _
  · have HF : Hid (standQ (⟨ts, lo, hi, pr, ne⟩ : Stand) (⟨us, lo', hi', pr', ne'⟩ : Stand) = false) := Lib.hid (by unfold standQ; dsimp only; rw [h2]; simp)
    have q2 : ∀ W, (Op.equalIn 10000 27 (.agg #[.int .i64 lo, .int .i64 hi]) (.agg #[.int .i64 lo', .int .i64 hi'])).run Tryd.prog W = .ok false W := fun W => by rw [eql_span, h2]
    go_enter Tryd.func35, Tryd.ntmps35
    go_wp2_with fail
    go_ret; exact ⟨ret_bool HF.out.symm, (HX.out _ hX0).2.2.2.2⟩
  have q2 : ∀ W, (Op.equalIn 10000 27 (.agg #[.int .i64 lo, .int .i64 hi]) (.agg #[.int .i64 lo', .int .i64 hi'])).run Tryd.prog W = .ok true W := fun W => by rw [eql_span, h2]
  rcases h3 : (pr == pr') with _ | _
  · have HF : Hid (standQ (⟨ts, lo, hi, pr, ne⟩ : Stand) (⟨us, lo', hi', pr', ne'⟩ : Stand) = false) := Lib.hid (by unfold standQ; dsimp only; rw [h3]; simp)
    have q3 : (pr != pr') = true := by simpa using h3
    go_enter Tryd.func35, Tryd.ntmps35
    go_wp2_with fail
    go_ret; exact ⟨ret_bool HF.out.symm, (HX.out _ hX0).2.2.2.2⟩
  have q3 : (pr != pr') = false := by simpa using h3
  rcases h4 : (ne == ne') with _ | _
  · have HF : Hid (standQ (⟨ts, lo, hi, pr, ne⟩ : Stand) (⟨us, lo', hi', pr', ne'⟩ : Stand) = false) := Lib.hid (by unfold standQ; dsimp only; rw [h4]; simp)
    have q4 : (ne != ne') = true := by simpa using h4
    go_enter Tryd.func35, Tryd.ntmps35
    go_wp2_with fail
    go_ret; exact ⟨ret_bool HF.out.symm, (HX.out _ hX0).2.2.2.2⟩
  have q4 : (ne != ne') = false := by simpa using h4
  have HE : Hid (standQ (⟨ts, lo, hi, pr, ne⟩ : Stand) (⟨us, lo', hi', pr', ne'⟩ : Stand) = treesQ (ts.drop 0) (us.drop 0)) := Lib.hid (by unfold standQ; dsimp only; rw [← hlA.out, ← hlB.out, h2, h3, h4, decide_eq_true (rfl : n = n)]; rfl)
  clear h2 h3 h4
  go_enter Tryd.func35, Tryd.ntmps35
  go_wp2_with fail
  clear q1 q2 q3 q4
  go_loopw [5] (fun i wr => ∃ k : Nat, k ≤ n ∧ i = .int .i64 k ∧ Hid (standQ (⟨ts, lo, hi, pr, ne⟩ : Stand) (⟨us, lo', hi', pr', ne'⟩ : Stand) = treesQ (ts.drop k) (us.drop k)) ∧ Below (w.heap.size + 1 + 1) ((w.alloc (.cells #[.slice a n c, .int .i64 lo, .int .i64 hi, .int .i64 pr, .int .i64 ne] 29)).alloc (.cells #[.slice b n c', .int .i64 lo', .int .i64 hi', .int .i64 pr', .int .i64 ne'] 29)) wr) (fun i _ => n - (intOf i).toNat)
  case atStart => exact ⟨0, Nat.zero_le _, rfl, HE, hX0⟩
  case round =>
    obtain ⟨k, hk, rfl, HK, hBr⟩ := hrel
    obtain ⟨bA, bB, tA, tB, hB0⟩ := HX.out wr hBr
    have e0 : wr.cell? ⟨w.heap.size, 0, none⟩ = some (.slice a n c) := bA.cell 0
    have e1 : wr.cell? ⟨w.heap.size + 1, 0, none⟩ = some (.slice b n c') := bB.cell 0
    have hnt := hlA.out
    have hnu := hlB.out
    by_cases hlt : k < n
    · obtain ⟨x, hx⟩ : ∃ x, ts[k]? = some x := ⟨_, List.getElem?_eq_getElem (by omega)⟩
      obtain ⟨y, hy⟩ : ∃ y, us[k]? = some y := ⟨_, List.getElem?_eq_getElem (by omega)⟩
      rcases tA.at_ with rfl | ⟨p, off, rfl, hpl, hP⟩
      · simp at hnt; omega
      rcases tB.at_ with rfl | ⟨q, off', rfl, hql, hQ⟩
      · simp at hnu; omega
      obtain ⟨c0, c1, c2, c3, c4, c5⟩ := hP k x hx
      obtain ⟨d0, d1, d2, d3, d4, d5⟩ := hQ k y hy
      have hst := Lib.hid (treesQ_drop hx hy)
      rcases hxy : treeQ x y with _ | _
      · have HF : Hid (standQ (⟨ts, lo, hi, pr, ne⟩ : Stand) (⟨us, lo', hi', pr', ne'⟩ : Stand) = false) := Lib.hid (by rw [HK.out, hst.out, hxy]; rfl)
        have hq : ∀ W, (Op.equalIn 10000 62 (.agg #[.string x.tag, .int .i64 x.x, .int .i64 x.y, .int .i64 x.gl, .int .i64 x.gh, .int .i64 x.cr]) (.agg #[.string y.tag, .int .i64 y.x, .int .i64 y.y, .int .i64 y.gl, .int .i64 y.gh, .int .i64 y.cr])).run Tryd.prog W = .ok false W := fun W => by rw [eql_tree, hxy]
        clear hP hQ hx hy hnt hnu bA bB tA tB
        go_wp2_with fail
        go_quiet (fail)
        go_wp2_with fail
        go_ret; exact ⟨ret_bool HF.out.symm, below_drewN hB0 _⟩
      · have HK1 : Hid (standQ (⟨ts, lo, hi, pr, ne⟩ : Stand) (⟨us, lo', hi', pr', ne'⟩ : Stand) = treesQ (ts.drop (k + 1)) (us.drop (k + 1))) := Lib.hid (by rw [HK.out, hst.out, hxy]; rfl)
        have hq : ∀ W, (Op.equalIn 10000 62 (.agg #[.string x.tag, .int .i64 x.x, .int .i64 x.y, .int .i64 x.gl, .int .i64 x.gh, .int .i64 x.cr]) (.agg #[.string y.tag, .int .i64 y.x, .int .i64 y.y, .int .i64 y.gl, .int .i64 y.gh, .int .i64 y.cr])).run Tryd.prog W = .ok true W := fun W => by rw [eql_tree, hxy]
        clear hP hQ hx hy hnt hnu bA bB tA tB
        go_wp2_with fail
        go_quiet (fail)
        go_wp2_with fail
        go_roundw
        case rel => exact ⟨k + 1, by omega, by go_num, HK1, below_drewN hBr _⟩
        case measure => simp [intOf]; omega
    · have HF : Hid (standQ (⟨ts, lo, hi, pr, ne⟩ : Stand) (⟨us, lo', hi', pr', ne'⟩ : Stand) = true) := Lib.hid (by
        rw [HK.out, List.drop_of_length_le (by omega), List.drop_of_length_le (by omega)]; rfl)
      clear hnt hnu bA bB tA tB
      go_wp2_with fail
      go_ret; exact ⟨ret_bool HF.out.symm, hB0⟩
end Go.Proofs.YtpkjjiieglebbaaDoor
