/- Contract of package stand's Follow. Conditions: the acts lie in memory as told; the variable changes holds what the text lays. -/
import Derived.Test.YtpkjjiieglebbaaDoorFM
import Derived.Test.YtpkjjiieglebbaaDoorPA
namespace Go.Proofs.YtpkjjiieglebbaaDoor
open Go Go.RowKit Go.Maps Go.WideMaps
structure Acts (w : World) (a : Option Addr) (n : Nat) (l : List Act) : Prop where
  len : n = l.length
  at_ : l = [] ∨ ∃ b off, a = some ⟨b, off, none⟩ ∧ b < w.heap.size ∧ ∀ (i : Nat) (t : Act), l[i]? = some t → w.cell? ⟨b, off + i * 3, none⟩ = some (.int .i64 t.day) ∧ w.cell? ⟨b, off + i * 3 + 1, none⟩ = some (.string t.tag) ∧ w.cell? ⟨b, off + i * 3 + 2, none⟩ = some (.int .i64 t.what)
  tags : ∀ t ∈ l, t.tag.size ≤ maxLen
  fits : n ≤ 9223372036854775807
theorem Acts.below {w w' : World} {a : Option Addr} {n : Nat} {l : List Act} (h : Acts w a n l) (hb : Below w.heap.size w w') : Acts w' a n l :=
  ⟨h.len, h.at_.imp id fun ⟨b, off, e, hl, ht⟩ => ⟨b, off, e, Nat.lt_of_lt_of_le hl hb.size, fun i t hi => by
    obtain ⟨c0, c1, c2⟩ := ht i t hi
    exact ⟨(hb.cell (by exact hl)).trans c0, (hb.cell (by exact hl)).trans c1, (hb.cell (by exact hl)).trans c2⟩⟩, h.tags, h.fits⟩
theorem after_no {st pl day what : Int} {tag : ByteArray} {w : World} (hC : Chg w) (hp : 0 ≤ pl ∧ pl ≤ 36500) (hd : 0 ≤ day ∧ day ≤ 36500) (h : afterM st pl day what = none) :
    Calls Tryd.prog 80 #[.agg #[.int .i64 st, .int .i64 pl], .agg #[.int .i64 day, .string tag, .int .i64 what]] w fun e w' => e = .returned (.tuple #[.agg #[.int .i64 0, .int .i64 0], .bool false]) ∧ Below w.heap.size w w' := by
  refine (after_any st pl day what tag w hC hp hd).mono ?_
  rw [h]; exact fun _ _ h => h
theorem after_yes {st pl day what : Int} {tag : ByteArray} {w : World} {p : Int × Int} (hC : Chg w) (hp : 0 ≤ pl ∧ pl ≤ 36500) (hd : 0 ≤ day ∧ day ≤ 36500) (h : afterM st pl day what = some p) :
    Calls Tryd.prog 80 #[.agg #[.int .i64 st, .int .i64 pl], .agg #[.int .i64 day, .string tag, .int .i64 what]] w fun e w' => e = .returned (.tuple #[.agg #[.int .i64 p.1, .int .i64 p.2], .bool true]) ∧ Below w.heap.size w w' := by
  refine (after_any st pl day what tag w hC hp hd).mono ?_
  rw [h]; exact fun _ _ h => h
theorem put_nodup {s : Lives} {t : ByteArray} {l : Int × Int} (h : (s.map (·.1.data.toList)).Nodup) : ((putL s t l).map (·.1.data.toList)).Nodup := by
  unfold putL
  split
  · rw [List.map_map]
    have e : ((fun x : ByteArray × (Int × Int) => x.1.data.toList) ∘ fun p => if isK t.data.toList p = true then (p.1, l) else p) = fun x => x.1.data.toList := by
      funext p; simp only [Function.comp]; split <;> rfl
    rw [e]; exact h
  · rename_i hk
    rw [List.map_append, List.map_singleton, List.nodup_append]
    refine ⟨h, by simp, ?_⟩
    intro a ha b hb e
    simp only [List.mem_singleton] at hb
    obtain ⟨p, hp, rfl⟩ := List.mem_map.1 ha
    exact hk (List.any_eq_true.2 ⟨p, hp, by simp [isK, e, hb]⟩)
theorem life_at {s : Lives} (h : (s.map (·.1.data.toList)).Nodup) {j : Nat} {p : ByteArray × (Int × Int)} (hj : s[j]? = some p) : lifeL s p.1.data.toList = p.2 := by
  induction s generalizing j with
  | nil => cases hj
  | cons q r ih =>
    simp only [List.map_cons, List.nodup_cons] at h
    unfold lifeL
    cases j with
    | zero =>
      simp only [List.getElem?_cons_zero, Option.some.injEq] at hj
      subst hj
      simp [List.find?, isK]
    | succ j =>
      simp only [List.getElem?_cons_succ] at hj
      have hm : p ∈ r := List.mem_of_getElem? hj
      have hq : isK p.1.data.toList q = false := by
        simp only [isK]
        simpa using fun e : q.1.data.toList = p.1.data.toList => h.1 (by rw [e]; exact List.mem_map.2 ⟨p, hm, rfl⟩)
      rw [List.find?_cons_of_neg (by simp [hq])]
      exact ih h.2 hj
theorem rows_apart {W : World} {b1 b2 : Nat} {e1 e2 : TypeId} {s1 s2 n1 n2 : Nat} {v1 v2 : Value} {x1 x2 : List Value} (h1 : W.ownsRow b1 e1 s1 v1 n1 x1) (h2 : W.ownsRow b2 e2 s2 v2 n2 x2) (he : e1 ≠ e2) : v1.ownBlock = none ∨ v1.ownBlock ≠ v2.ownBlock := by
  rcases h1.2 with ⟨rfl, _⟩ | ⟨g, cap, cur, rfl, _, hg, _⟩
  · exact .inl rfl
  · right
    rcases h2.2 with ⟨rfl, _⟩ | ⟨g', cap', cur', rfl, _, hg', _⟩
    · simp [Value.ownBlock]
    · intro e
      simp only [Value.ownBlock, Option.some.injEq] at e
      subst e
      rw [hg] at hg'
      cases hg'
      exact he rfl
theorem put_sizes {s : Lives} {t : ByteArray} {l : Int × Int} (h : ∀ p ∈ s, p.1.size ≤ maxLen) (ht : t.size ≤ maxLen) : ∀ p ∈ putL s t l, p.1.size ≤ maxLen := by
  intro p hp
  unfold putL at hp
  split at hp
  · obtain ⟨q, hq, rfl⟩ := List.mem_map.1 hp
    split
    · exact h q hq
    · exact h q hq
  · rcases List.mem_append.1 hp with hp | hp
    · exact h p hp
    · simp only [List.mem_singleton] at hp; subst hp; exact ht
theorem row_apart_ne {W : World} {base b : Nat} {e : TypeId} {size k : Nat} {v : Value} {xs : List Value} (h : W.ownsRow base e size v k xs) (hb : b < base) : v.ownBlock = none ∨ v.ownBlock ≠ some b := by
  right; intro e; have := row_ge h b e; omega
theorem box_not {W : World} {base b : Nat} {t e : TypeId} {cs : Array Value} {size k : Nat} {v : Value} {xs : List Value} (hb : Box W b cs t) (h : W.ownsRow base e size v k xs) (he : t ≠ e) : some b ≠ v.ownBlock := by
  rcases h.2 with ⟨rfl, _⟩ | ⟨g, cap, cur, rfl, _, hg, _⟩
  · simp [Value.ownBlock]
  · intro e1
    simp only [Value.ownBlock, Option.some.injEq] at e1
    subst e1
    rw [show W.heap[b]? = _ from hb] at hg
    cases hg
    exact he rfl
theorem str_new {w : World} {o : Obj} {tag : ByteArray} {j : Nat} {x : Value} (h : ([.string tag] : List Value)[j]? = some x) : ((w.alloc o).alloc (.cells #[.string tag] 9)).cell? ((⟨w.heap.size + 1, 0, none⟩ : Addr).add j) = some x := by
  rw [Addr.add_lit, Nat.zero_add]
  have b := (Box.new (w.alloc o) #[.string tag] 9).cell j
  rw [World.size_alloc] at b
  rw [b]; simpa using h
theorem infoStr : (Tryd.prog.info? 9).map (fun i => (i.zero, i.size, i.bytes)) = some (some (.string ⟨#[]⟩), 1, 16) := by kernel_rfl
set_option maxRecDepth 100000 in
set_option maxHeartbeats 4000000 in
theorem follow_any (a : Option Addr) (n c : Nat) (l : List Act) (w : World) (hA : Acts w a n l) (hC : Chg w) :
    Calls Tryd.prog 36 #[.slice a n c] w fun e w' =>
      ∃ v1 v2, e = .returned (.tuple #[v1, v2, .int .i64 ((followL l).2.2.1 : Int), .int .i64 (followL l).2.2.2]) ∧ w'.ownsRow w.heap.size 9 1 v1 (followL l).1.length ((followL l).1.map Value.string) ∧
        w'.ownsRow w.heap.size 3 1 v2 (followL l).2.1.length ((followL l).2.1.map (Value.int .i64)) ∧ Below w.heap.size w w' := by
  have hn := hA.len
  subst hn
  have hfit := hA.fits
  by_cases h256 : 256 < l.length
  · have HF : Hid (followL l = ([], [], 0, 3)) := Lib.hid (by unfold followL; rw [if_pos h256])
    clear hA hC
    go_enter Tryd.func36, Tryd.ntmps36
    go_wp2_with fail
    refine bodyPost_ret (v := .tuple #[.slice none 0 0, .slice none 0 0, .int .i64 0, .int .i64 3]) (by simp [results, Tryd.results36, go_sem]) rfl ⟨.slice none 0 0, .slice none 0 0, ?_⟩
    rw [HF.out]
    exact ⟨rfl, World.ownsRow_nil _ _ _ _, World.ownsRow_nil _ _ _ _, Below.refl _ _⟩
  have hlen : l.length ≤ 256 := by omega
  have HX : Hid (∀ W, Below w.heap.size w W → Acts W a l.length l ∧ Chg W) := Lib.hid fun W h => ⟨hA.below h, hC.below h⟩
  have HF0 : Hid (followL l = runL (l.drop 0) 0 0 []) := Lib.hid (by unfold followL; rw [if_neg h256]; rfl)
  have hmm := @run_makeMap Tryd.prog
  have HTG := Lib.hid hA.tags
  clear hA hC
  go_enter Tryd.func36, Tryd.ntmps36
  go_wp2_with fail
  go_loopw [2, 3, 7, 22] (fun tg z3 td i wr => ∃ (k : Nat) (day0 : Int) (s : Lives) (va : Option Addr) (vc : Nat) (D : DataW Unit), k ≤ l.length ∧ i = .int .i64 k ∧ td = .int .i64 day0 ∧ tg = .slice va s.length vc ∧ z3 = .slice none 0 0 ∧ Hid (followL l = runL (l.drop k) k day0 s) ∧ 0 ≤ day0 ∧ day0 ≤ 36500 ∧ Hid (∀ p ∈ s, 0 ≤ p.2.2 ∧ p.2.2 ≤ 36500) ∧ s.length ≤ k ∧ Hid ((s.map (·.1.data.toList)).Nodup) ∧ Hid (∀ p ∈ s, p.1.size ≤ maxLen) ∧ Hid (MapIs D s) ∧ Hid (wr.ownsMap Tryd.prog 9 lifeR w.heap.size k D) ∧ Hid (wr.ownsRow (w.heap.size + 1) 9 1 (.slice va s.length vc) s.length ((s.map (·.1)).map Value.string)) ∧ Hid (Below w.heap.size w wr) ∧ w.heap.size + 1 ≤ wr.heap.size) (fun _ _ _ i _ => l.length - (intOf i).toNat)
  case atStart => exact ⟨0, 0, [], none, 0, .map [], Nat.zero_le _, rfl, rfl, rfl, rfl, HF0, by omega, by omega, Lib.hid (fun _ h => by cases h), Nat.le_refl _, Lib.hid List.nodup_nil, Lib.hid (fun _ h => by cases h), Lib.hid mapIs_nil, Lib.hid (World.ownsMap_made _ _ _ _), Lib.hid (World.ownsRow_nil _ _ _ _), Lib.hid ((Below.refl _ _).alloc (Nat.le_refl _) _), by simp⟩
  case round =>
    obtain ⟨k, day0, s, va, vc, D, hk, rfl, rfl, rfl, rfl, HF, hd1, hd2, HPL, hsk, HND, HSZ, HM, HO, HR, HB, hz⟩ := hrel
    clear HF0 hmm
    by_cases hlt : k < l.length
    · obtain ⟨act, hact⟩ : ∃ t, l[k]? = some t := ⟨_, List.getElem?_eq_getElem hlt⟩
      obtain ⟨hAr, hCr⟩ := HX.out wr HB.out
      have htg := HTG.out act (List.mem_of_getElem? hact)
      have hst : runL (l.drop k) k day0 s = if frB act.day day0 36500 && wordB act.tag.data.toList then (match afterM (lifeL s act.tag.data.toList).1 (lifeL s act.tag.data.toList).2 act.day act.what with | none => ([], [], k, 13) | some q => runL (l.drop (k + 1)) (k + 1) act.day (putL s act.tag q)) else ([], [], k, 13) := by
        rw [List.drop_eq_getElem_cons hlt, show l[k] = act by rw [List.getElem?_eq_getElem hlt] at hact; exact Option.some.inj hact]
        rfl
      rcases hAr.at_ with rfl | ⟨b, off, rfl, hbl, hcc⟩
      · simp at hlt
      obtain ⟨c0, c1, c2⟩ := hcc k act hact
      have hpl := life_planted HPL.out act.tag.data.toList
      obtain ⟨day, tag, what⟩ := act
      dsimp only at c0 c1 c2 htg hst hpl
      have HS := Lib.hid (HF.out.trans hst)
      have HC2 : Hid (Chg ((wr.alloc (.cells #[.int .i64 day, .string tag, .int .i64 what] 70)).alloc (.cells #[.int .i64 (lifeL s tag.data.toList).1, .int .i64 (lifeL s tag.data.toList).2] 104))) := Lib.hid (hCr.below (((Below.refl _ _).alloc (Nat.le_refl _) _).alloc (by simp) _))
      clear hcc hAr hact hst hCr HF
      rcases hfr : frB day day0 36500 with _ | _
      · have HE : Hid (followL l = ([], [], k, 13)) := Lib.hid (by rw [HS.out, hfr]; rfl)
        clear HS
        go_wp2_with (first | (go_at_call 62; refine (isFrom_any _ _ _ _).mono ?_; rintro e w' ⟨rfl, rfl⟩) | (go_at_call 18; refine (isWord_any tag _ htg).mono ?_; rintro e w' ⟨rfl, rfl⟩))
        refine bodyPost_ret (v := .tuple #[.slice none 0 0, .slice none 0 0, .int .i64 k, .int .i64 13]) (by simp [results, Tryd.results36, go_sem]) rfl ⟨.slice none 0 0, .slice none 0 0, ?_⟩
        rw [HE.out]
        exact ⟨rfl, World.ownsRow_nil _ _ _ _, World.ownsRow_nil _ _ _ _, HB.out.alloc (by omega) _⟩
      rcases hwd : wordB tag.data.toList with _ | _
      · have HE : Hid (followL l = ([], [], k, 13)) := Lib.hid (by rw [HS.out, hfr, hwd]; rfl)
        clear HS
        go_wp2_with (first | (go_at_call 62; refine (isFrom_any _ _ _ _).mono ?_; rintro e w' ⟨rfl, rfl⟩) | (go_at_call 18; refine (isWord_any tag _ htg).mono ?_; rintro e w' ⟨rfl, rfl⟩))
        refine bodyPost_ret (v := .tuple #[.slice none 0 0, .slice none 0 0, .int .i64 k, .int .i64 13]) (by simp [results, Tryd.results36, go_sem]) rfl ⟨.slice none 0 0, .slice none 0 0, ?_⟩
        rw [HE.out]
        exact ⟨rfl, World.ownsRow_nil _ _ _ _, World.ownsRow_nil _ _ _ _, HB.out.alloc (by omega) _⟩
      have hdd := frB_iff.1 hfr
      rcases haf : afterM (lifeL s tag.data.toList).1 (lifeL s tag.data.toList).2 day what with _ | q
      · have HE : Hid (followL l = ([], [], k, 13)) := Lib.hid (by rw [HS.out, hfr, hwd, haf]; rfl)
        clear HS
        go_wp2_with (first | (go_at_call 62; refine (isFrom_any _ _ _ _).mono ?_; rintro e w' ⟨rfl, rfl⟩) | (go_at_call 18; refine (isWord_any tag _ htg).mono ?_; rintro e w' ⟨rfl, rfl⟩) | (at_lookup; refine look_ok rfl _ _ rfl w.heap.size k D s HM.out rfl (HO.out.alloc _) tag rfl htg ?_) | (go_at_call 80; refine (after_no HC2.out hpl ⟨by omega, by omega⟩ haf).mono ?_; rintro e w1 ⟨rfl, hb1⟩))
        refine bodyPost_ret (v := .tuple #[.slice none 0 0, .slice none 0 0, .int .i64 k, .int .i64 13]) (by simp [results, Tryd.results36, go_sem]) rfl ⟨.slice none 0 0, .slice none 0 0, ?_⟩
        rw [HE.out]
        exact ⟨rfl, World.ownsRow_nil _ _ _ _, World.ownsRow_nil _ _ _ _, (((HB.out.alloc (by omega) _).alloc (by simp; omega) _).trans (hb1.mono (by simp; omega))).alloc (by have := hb1.size; simp at this; omega) _⟩
      · have HE : Hid (followL l = runL (l.drop (k + 1)) (k + 1) day (putL s tag q)) := Lib.hid (by rw [HS.out, hfr, hwd, haf]; rfl)
        have hq := after_planted haf hpl ⟨by omega, by omega⟩
        have hpl2 := Lib.hid (put_planted (t := tag) HPL.out hq)
        have hln := put_len s tag q
        have hnd := Lib.hid (put_nodup (t := tag) (l := q) HND.out)
        have hmi := Lib.hid (HM.out.put tag q)
        have hsz := Lib.hid (put_sizes (l := q) HSZ.out htg)
        clear HS
        rcases hkn : knownL s tag.data.toList with _ | _
        · obtain ⟨i0, hi0, hz0, hz1, hz2⟩ := info_parts infoStr
          have htags := Lib.hid (put_tags_new (l := q) hkn)
          go_wp2_with (first | (go_at_call 62; refine (isFrom_any _ _ _ _).mono ?_; rintro e w' ⟨rfl, rfl⟩) | (go_at_call 18; refine (isWord_any tag _ htg).mono ?_; rintro e w' ⟨rfl, rfl⟩) | (at_lookup; refine look_ok rfl _ _ rfl w.heap.size k D s HM.out rfl (HO.out.alloc _) tag rfl htg ?_) | (at_mapUpdate; have HO2 := ((HO1.out.alloc (.cells #[.int .i64 q.1, .int .i64 q.2] 104)).alloc (.cells #[.string tag] 9)).kept hgrow2 (fun e => by have := row_ge ((HR1.out.alloc (.cells #[.int .i64 q.1, .int .i64 q.2] 104)).alloc (.cells #[.string tag] 9)) w.heap.size e.symm; omega); refine wpList_mapUpdate_own _ rfl _ _ _ 102 rfl 9 104 lawS Tryd.underlying102 lifeR w.heap.size k _ rfl HO2 (by unfold maxLen; omega) _ _ (.string tag.data.toList) rfl rfl (keyOf_string_mk Tryd.underlying9 htg) _ [] (lifeR_mk q.1 q.2) ?_; intro w3 hown3 hgrow3; have a8 : w3.cell? ⟨wr.heap.size, 0, none⟩ = some (.int .i64 day) := hgrow3.cell a6 (by simp; omega)) | (at_builtin; refine wpList_append_own _ rfl _ _ 51 rfl (w.heap.size + 1) 9 i0 (.string ⟨#[]⟩) 1 16 Tryd.underlying51 hi0 hz0 hz1 hz2 rfl (by decide) _ _ _ rfl ((HR1.out.alloc _).alloc _) ⟨w1.heap.size + 1, 0, none⟩ 1 1 [.string tag] rfl rfl (fun j x hx => str_new hx) (by simp [Value.oneCell']) (by unfold maxLen; omega) (by omega) (by simp; omega) ?_; intro v2 w2 hown2 hgrow2 _; obtain ⟨va2, vc2, rfl⟩ := row_form hown2; have hrn := row_not ((HR1.out.alloc (.cells #[.int .i64 q.1, .int .i64 q.2] 104)).alloc (.cells #[.string tag] 9)) (b := w.heap.size) (by omega); have bL2 := (Box.new w1 #[.int .i64 q.1, .int .i64 q.2] 104).alloc (.cells #[.string tag] 9); have bA2 := (bA1.alloc (.cells #[.string tag] 9)); have a6 : w2.cell? ⟨wr.heap.size, 0, none⟩ = some (.int .i64 day) := hgrow2.cell (bA2.cell 0) (box_not bA2 ((HR1.out.alloc (.cells #[.int .i64 q.1, .int .i64 q.2] 104)).alloc (.cells #[.string tag] 9)) (by decide)); have a7 : w2.cell? ⟨wr.heap.size, 1, none⟩ = some (.string tag) := hgrow2.cell (bA2.cell 1) (box_not bA2 ((HR1.out.alloc (.cells #[.int .i64 q.1, .int .i64 q.2] 104)).alloc (.cells #[.string tag] 9)) (by decide)); have q3 : w2.cell? ⟨w1.heap.size, 0, none⟩ = some (.int .i64 q.1) := hgrow2.cell (bL2.cell 0) (box_not bL2 ((HR1.out.alloc (.cells #[.int .i64 q.1, .int .i64 q.2] 104)).alloc (.cells #[.string tag] 9)) (by decide)); have q4 : w2.cell? ⟨w1.heap.size, 1, none⟩ = some (.int .i64 q.2) := hgrow2.cell (bL2.cell 1) (box_not bL2 ((HR1.out.alloc (.cells #[.int .i64 q.1, .int .i64 q.2] 104)).alloc (.cells #[.string tag] 9)) (by decide))) | (go_at_call 80; refine (after_yes HC2.out hpl ⟨by omega, by omega⟩ haf).mono ?_; rintro e w1 ⟨rfl, hb1⟩; have hzz := hb1.size; simp only [World.size_alloc] at hzz; have bA := ((Box.new wr #[.int .i64 day, .string tag, .int .i64 what] 70).alloc (.cells #[.int .i64 (lifeL s tag.data.toList).1, .int .i64 (lifeL s tag.data.toList).2] 104)).below hb1 (by simp; omega); have a0 : w1.cell? ⟨wr.heap.size, 0, none⟩ = some (.int .i64 day) := bA.cell 0; have a1 : w1.cell? ⟨wr.heap.size, 1, none⟩ = some (.string tag) := bA.cell 1; have hne1 : w1.heap.size ≠ wr.heap.size := (by omega); have bA1 := bA.alloc (.cells #[.int .i64 q.1, .int .i64 q.2] 104); have a3 : (w1.alloc (.cells #[.int .i64 q.1, .int .i64 q.2] 104)).cell? ⟨wr.heap.size, 0, none⟩ = some (.int .i64 day) := bA1.cell 0; have a4 : (w1.alloc (.cells #[.int .i64 q.1, .int .i64 q.2] 104)).cell? ⟨wr.heap.size, 1, none⟩ = some (.string tag) := bA1.cell 1; have HO1 := Lib.hid (ownsMap_below ((HO.out.alloc (.cells #[.int .i64 day, .string tag, .int .i64 what] 70)).alloc (.cells #[.int .i64 (lifeL s tag.data.toList).1, .int .i64 (lifeL s tag.data.toList).2] 104)) hb1 (by simp; omega)); have HR1 := Lib.hid (ownsRow_below ((HR.out.alloc (.cells #[.int .i64 day, .string tag, .int .i64 what] 70)).alloc (.cells #[.int .i64 (lifeL s tag.data.toList).1, .int .i64 (lifeL s tag.data.toList).2] 104)) hb1 (Nat.le_refl _)); have HB1 := Lib.hid (((HB.out.alloc (by omega) (.cells #[.int .i64 day, .string tag, .int .i64 what] 70)).alloc (by simp; omega) (.cells #[.int .i64 (lifeL s tag.data.toList).1, .int .i64 (lifeL s tag.data.toList).2] 104)).trans (hb1.mono (by simp; omega))); clear bA hb1))
          have hlen2 := Lib.hid (show (putL s tag q).length = s.length + 1 by have := congrArg List.length htags.out; simpa using this)
          go_roundw
          case rel => exact ⟨k + 1, day, putL s tag q, va2, vc2, _, by omega, by go_num, rfl, by rw [hlen2.out], rfl, HE, by omega, by omega, hpl2, by have := hlen2.out; omega, hnd, hsz, hmi, Lib.hid hown3, Lib.hid (by rw [hlen2.out, htags.out, List.map_append]; exact hown2.kept hgrow3 (row_apart_ne hown2 (by omega))), Lib.hid ((((HB1.out.alloc (by omega) _).alloc (by simp; omega) _).grown hgrow2 (by simp; omega) (fun j ej => by have := row_ge ((HR1.out.alloc (.cells #[.int .i64 q.1, .int .i64 q.2] 104)).alloc (.cells #[.string tag] 9)) j ej; omega)).grown hgrow3 (by have := hgrow2.size; simp at this; omega) (fun j ej => by cases ej; omega)), by have := hgrow3.size; have := hgrow2.size; simp at this; omega⟩
          case measure => simp [intOf]; omega
        · have htags := Lib.hid (put_tags_known (l := q) hkn)
          have hlen2 := Lib.hid (show (putL s tag q).length = s.length by have := congrArg List.length htags.out; simpa using this)
          go_wp2_with (first | (go_at_call 62; refine (isFrom_any _ _ _ _).mono ?_; rintro e w' ⟨rfl, rfl⟩) | (go_at_call 18; refine (isWord_any tag _ htg).mono ?_; rintro e w' ⟨rfl, rfl⟩) | (at_lookup; refine look_ok rfl _ _ rfl w.heap.size k D s HM.out rfl (HO.out.alloc _) tag rfl htg ?_) | (at_mapUpdate; refine wpList_mapUpdate_own _ rfl _ _ _ 102 rfl 9 104 lawS Tryd.underlying102 lifeR w.heap.size k _ rfl (HO1.out.alloc _) (by unfold maxLen; omega) _ _ (.string tag.data.toList) rfl rfl (keyOf_string_mk Tryd.underlying9 htg) _ [] (lifeR_mk q.1 q.2) ?_; intro w3 hown3 hgrow3; have a5 : w3.cell? ⟨wr.heap.size, 0, none⟩ = some (.int .i64 day) := hgrow3.cell a3 (by simp; omega)) | (go_at_call 80; refine (after_yes HC2.out hpl ⟨by omega, by omega⟩ haf).mono ?_; rintro e w1 ⟨rfl, hb1⟩; have hzz := hb1.size; simp only [World.size_alloc] at hzz; have bA := ((Box.new wr #[.int .i64 day, .string tag, .int .i64 what] 70).alloc (.cells #[.int .i64 (lifeL s tag.data.toList).1, .int .i64 (lifeL s tag.data.toList).2] 104)).below hb1 (by simp; omega); have a0 : w1.cell? ⟨wr.heap.size, 0, none⟩ = some (.int .i64 day) := bA.cell 0; have a1 : w1.cell? ⟨wr.heap.size, 1, none⟩ = some (.string tag) := bA.cell 1; have hne1 : w1.heap.size ≠ wr.heap.size := (by omega); have bA1 := bA.alloc (.cells #[.int .i64 q.1, .int .i64 q.2] 104); have a3 : (w1.alloc (.cells #[.int .i64 q.1, .int .i64 q.2] 104)).cell? ⟨wr.heap.size, 0, none⟩ = some (.int .i64 day) := bA1.cell 0; have a4 : (w1.alloc (.cells #[.int .i64 q.1, .int .i64 q.2] 104)).cell? ⟨wr.heap.size, 1, none⟩ = some (.string tag) := bA1.cell 1; have HO1 := Lib.hid (ownsMap_below ((HO.out.alloc (.cells #[.int .i64 day, .string tag, .int .i64 what] 70)).alloc (.cells #[.int .i64 (lifeL s tag.data.toList).1, .int .i64 (lifeL s tag.data.toList).2] 104)) hb1 (by simp; omega)); have HR1 := Lib.hid (ownsRow_below ((HR.out.alloc (.cells #[.int .i64 day, .string tag, .int .i64 what] 70)).alloc (.cells #[.int .i64 (lifeL s tag.data.toList).1, .int .i64 (lifeL s tag.data.toList).2] 104)) hb1 (Nat.le_refl _)); have HB1 := Lib.hid (((HB.out.alloc (by omega) (.cells #[.int .i64 day, .string tag, .int .i64 what] 70)).alloc (by simp; omega) (.cells #[.int .i64 (lifeL s tag.data.toList).1, .int .i64 (lifeL s tag.data.toList).2] 104)).trans (hb1.mono (by simp; omega))); clear bA hb1))
          go_roundw
          case rel => exact ⟨k + 1, day, putL s tag q, va, vc, _, by omega, by go_num, rfl, by rw [hlen2.out], rfl, HE, by omega, by omega, hpl2, by omega, hnd, hsz, hmi, Lib.hid hown3, Lib.hid (by rw [hlen2.out, htags.out]; exact (HR1.out.alloc _).kept hgrow3 (row_apart_ne HR1.out (by omega))), Lib.hid ((HB1.out.alloc (by omega) _).grown hgrow3 (by simp; omega) (fun j ej => by cases ej; omega)), by have := hgrow3.size; simp at this; omega⟩
          case measure => simp [intOf]; omega
    · have hkl : k = l.length := by omega
      have HE : Hid (followL l = (s.map (·.1), s.map (·.2.1), l.length, 0)) := Lib.hid (by rw [HF.out, hkl, List.drop_length]; rfl)
      have hs256 : s.length ≤ 256 := by omega
      clear HF HPL hd1 hd2 hkl
      obtain ⟨i0, hi0, hz0, hz1, hz2⟩ := info_parts info3
      go_wp2_with fail
      go_loopw [3, 71] (fun sv jv wx => ∃ (j : Nat) (sa : Option Addr) (sc : Nat), j ≤ s.length ∧ jv = .int .i64 j ∧ sv = .slice sa j sc ∧ Hid (wx.ownsRow (w.heap.size + 1) 3 1 (.slice sa j sc) j ((s.take j).map fun p => Value.int .i64 p.2.1)) ∧ Hid (wx.ownsMap Tryd.prog 9 lifeR w.heap.size k D) ∧ Hid (wx.ownsRow (w.heap.size + 1) 9 1 (.slice va s.length vc) s.length ((s.map (·.1)).map Value.string)) ∧ Hid (Below w.heap.size w wx) ∧ w.heap.size + 1 ≤ wx.heap.size) (fun _ jv _ => s.length - (intOf jv).toNat)
      case atStart => exact ⟨0, none, 0, Nat.zero_le _, rfl, rfl, Lib.hid (World.ownsRow_nil _ _ _ _), HO, HR, HB, hz⟩
      case round =>
        obtain ⟨j, sa, sc, hj, rfl, rfl, HS, HOx, HT, HBx, hzx⟩ := hrel
        clear HO HR HB hz
        by_cases hjl : j < s.length
        · obtain ⟨p, hp⟩ : ∃ p, s[j]? = some p := ⟨_, List.getElem?_eq_getElem hjl⟩
          have hps := HSZ.out p (List.mem_of_getElem? hp)
          have hla := Lib.hid (life_at HND.out hp)
          have htk := Lib.hid (show (s.take (j + 1)).map (fun p => Value.int .i64 p.2.1) = (s.take j).map (fun p => Value.int .i64 p.2.1) ++ [.int .i64 p.2.1] by rw [List.take_add_one, hp]; simp)
          have hcell := HT.out.2
          rcases hcell with ⟨_, h0⟩ | ⟨g, cap, cur, h1, _, _, _, _, _, _⟩
          · omega
          simp only [Value.slice.injEq] at h1
          obtain ⟨rfl, _, rfl⟩ := h1
          have c0 : wr.cell? ⟨g, j, none⟩ = some (.string p.1) := by
            have := HT.out.cells (g := g) rfl j (.string p.1) (by simp [hp])
            rwa [Addr.add_lit, Nat.zero_add] at this
          obtain ⟨tag, st, pl⟩ := p
          dsimp only at hps hla htk c0
          have hla1 := Lib.hid (show (lifeL s tag.data.toList).1 = st by rw [hla.out])
          have hla2 := Lib.hid (show (lifeL s tag.data.toList).2 = pl by rw [hla.out])
          have hfd : ∀ w : World, (Instr.field 104 (.agg #[.int .i64 st, .int .i64 pl]) 0).run Tryd.prog w = .ok (.int .i64 st) w := fun _ => by kernel_rfl
          clear hp hla
          go_wp2_with (first
            | (at_lookup; refine look_plain rfl _ _ rfl w.heap.size k D s HM.out rfl HOx.out tag rfl hps ?_; rw [hla1.out, hla2.out])
            | (at_builtin; refine wpList_append_own _ rfl _ _ 30 rfl (w.heap.size + 1) 3 i0 (.int .i64 0) 1 8 Tryd.underlying30 hi0 hz0 hz1 hz2 rfl (by decide) _ _ _ rfl (HS.out.alloc _) ⟨wr.heap.size, 0, none⟩ 1 1 [.int .i64 st] rfl rfl (cell_one_new _ _ _) (by simp [Value.oneCell']) (by unfold maxLen; omega) (by omega) (by simp; omega) ?_; intro v2 w2 hown2 hgrow2 _; obtain ⟨va2, vc2, rfl⟩ := row_form hown2))
          go_roundw
          case rel => exact ⟨j + 1, va2, vc2, by omega, by go_num, rfl, Lib.hid (by rw [htk.out]; exact hown2), Lib.hid ((HOx.out.alloc _).kept hgrow2 (row_not HS.out (by omega))), Lib.hid ((HT.out.alloc _).kept hgrow2 (rows_apart HT.out HS.out (by decide))), Lib.hid ((HBx.out.alloc (by omega) _).grown hgrow2 (by simp; omega) (fun i ei => by have := row_ge HS.out i ei; omega)), by have := hgrow2.size; simp at this; omega⟩
          case measure => simp [intOf]; omega
        · have hjs : j = s.length := by omega
          subst hjs
          go_wp2_with fail
          refine bodyPost_ret (v := .tuple #[.slice va s.length vc, .slice sa s.length sc, .int .i64 (l.length : Int), .int .i64 0]) (by simp [results, Tryd.results36, go_sem]) rfl ⟨.slice va s.length vc, .slice sa s.length sc, ?_⟩
          rw [HE.out]
          refine ⟨rfl, ?_, ?_, HBx.out⟩
          · simp only [List.length_map]; exact ownsRow_base HT.out (by omega)
          · simp only [List.length_map]
            have := HS.out
            rw [List.take_length] at this
            rw [List.map_map]
            exact ownsRow_base this (by omega)
end Go.Proofs.YtpkjjiieglebbaaDoor
