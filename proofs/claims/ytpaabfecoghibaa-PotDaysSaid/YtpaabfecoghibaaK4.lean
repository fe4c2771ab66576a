/- Appends, reckoned on the shadow. Over any program. Conditions: as each law says. -/
import Derived.Test.YtpaabfecoghibaaK3
import Derived.Laws.AppendOwn
import Derived.Test.YtpaabfecoghibaaK1
import Derived.OrdersIn
import Derived.TacticsIn
namespace Go.Proofs.Ytpaabfecoghibaa
open Go Go.RowKit
set_option linter.unusedSimpArgs false
set_option linter.unusedVariables false
noncomputable def rowPart (h : SH) (a : Addr) (len : Nat) : Option (List Value) := match h.tr.get a.block with
  | some (.row _ cs _) => cond (Nat.ble (a.off + len) cs.length) (some ((cs.drop a.off).take len)) none
  | _ => none
/-- So many cells of memory that was there before. -/
noncomputable def readO (f : Nat → Nat → Option Value) (b : Nat) : Nat → Nat → Option (List Value)
  | _, 0 => some []
  | o, n + 1 => match f b o with
    | some v => match gr 6 v with
      | true => (readO f b (o + 1) n).map fun l => v :: l
      | false => none
    | none => none
theorem readO_ok {f : Nat → Nat → Option Value} {b : Nat} : ∀ (n o : Nat) (l : List Value), readO f b o n = some l → l.length = n ∧ l.all (gr 6) = true ∧ ∀ (i : Nat) (v : Value), l[i]? = some v → f b (o + i) = some v
  | 0, o, l, e => by cases e; exact ⟨rfl, rfl, fun i v h => by simp at h⟩
  | n + 1, o, l, e => by
    unfold readO at e
    split at e
    · rename_i v hv
      split at e
      · rename_i hg
        obtain ⟨l0, h0, rfl⟩ := Option.map_eq_some_iff.1 e
        obtain ⟨h1, h2, h3⟩ := readO_ok n (o + 1) l0 h0
        refine ⟨by simp [h1], by simp [hg, h2], fun i w hw => ?_⟩
        cases i with
        | zero =>
          obtain rfl : v = w := by simpa using hw
          exact hv
        | succ i =>
          have := h3 i w (by simpa using hw)
          rw [show o + (i + 1) = o + 1 + i by omega]; exact this
      · cases e
    · cases e
theorem readO_of {f : Nat → Nat → Option Value} {b : Nat} : ∀ (n o : Nat) (l : List Value), l.length = n → l.all (gr 6) = true → (∀ (i : Nat) (v : Value), l[i]? = some v → f b (o + i) = some v) → readO f b o n = some l
  | 0, o, l, h, _, _ => by
    obtain rfl := List.length_eq_zero_iff.1 h
    rfl
  | n + 1, o, [], h, _, _ => by simp at h
  | n + 1, o, v :: l, h, hg, hf => by
    rw [List.all_cons, Bool.and_eq_true] at hg
    have h0 := hf 0 v rfl
    rw [Nat.add_zero] at h0
    rw [readO, h0]
    simp only [hg.1]
    rw [readO_of n (o + 1) l (by simpa using h) hg.2 fun i w hw => by
      have := hf (i + 1) w (by simpa using hw)
      rw [show o + 1 + i = o + (i + 1) by omega]; exact this]
    rfl
noncomputable def sNews (G : Gl) (h : SH) (sz : Nat) : Value → Option (Nat × List Value)
  | .slice none 0 0 => some (0, [])
  | .slice (some a) m _ => match a.spot with
    | some 2 => cond (Nat.beq m 0) (some (0, [])) none
    | some 0 | some 3 => (rowPart h a (m * sz)).map fun l => (m, l)
    | some 1 => cond (Nat.beq a.off 0) ((rowPart h a (m * sz)).map fun l => (m, l)) none
    | none => (readO G.f a.block a.off (m * sz)).map fun l => (m, l)
    | _ => none
  | _ => none
section
variable {P : Program} {N : Lim} {G : Gl} {μ : Mu} {h : SH} {w : World} {frz : List Nat}
theorem rowPart_ok (d : Den P N G μ h w) {a : Addr} {len : Nat} {l : List Value} (e : rowPart h a len = some l) {b κ : Nat} (hm : μ a.block = some (b, κ)) :
    ∃ l', RelL μ l l' ∧ l.length = len ∧ ∀ i v, l'[i]? = some v → w.cell? ((⟨b, a.off, none⟩ : Addr).add i) = some v := by
  unfold rowPart at e
  split at e
  · rename_i ty cs f hget
    cases hc : Nat.ble (a.off + len) cs.length with
    | false => rw [hc] at e; cases e
    | true =>
      rw [hc] at e
      simp only [cond_true, Option.some.injEq] at e
      subst e
      have hle := Nat.le_of_ble_eq_true hc
      obtain ⟨b', κ', cur, sz, g1, g2, g3, g4, g5, g6, g7⟩ := d.blk _ _ hget
      rw [hm] at g1; cases g1
      refine ⟨((cur.toList.take cs.length).drop a.off).take len, (g7.drop _).take _, by simp; omega, fun i v hv => ?_⟩
      rw [Addr.add_mid]
      rw [List.getElem?_take] at hv
      split at hv
      · rw [List.getElem?_drop, List.getElem?_take] at hv
        split at hv
        · simp only [World.cell?, g3]
          simpa using hv
        · cases hv
      · cases hv
  · cases e
theorem sNews_ok (d : Den P N G μ h w) {sz m : Nat} {x x' : Value} {l : List Value} (e : sNews G h sz x = some (m, l)) (hx : Rel μ x x') :
    ∃ oa c' l', x' = .slice oa m c' ∧ RelL μ l l' ∧ l.length = m * sz ∧ (m = 0 ∨ ∃ a, oa = some a ∧ ∀ i v, l'[i]? = some v → w.cell? (a.add i) = some v) := by
  unfold sNews at e
  split at e
  · cases e
    obtain rfl := hx.eq (by rfl)
    exact ⟨none, 0, [], rfl, .nil, by simp, .inl rfl⟩
  · rename_i a m' c
    obtain ⟨blk, off, sp⟩ := a
    have part : ∀ {b κ : Nat}, μ blk = some (b, κ) → (rowPart h ⟨blk, off, sp⟩ (m' * sz)).map (fun l => (m', l)) = some (m, l) → ∃ l', RelL μ l l' ∧ l.length = m * sz ∧ m = m' ∧ ∀ i v, l'[i]? = some v → w.cell? ((⟨b, off, none⟩ : Addr).add i) = some v := fun hm e => by
      cases hr : rowPart h ⟨blk, off, sp⟩ (m' * sz) with
      | none => simp [hr] at e
      | some l0 =>
        simp only [hr, Option.map_some, Option.some.injEq, Prod.mk.injEq] at e
        obtain ⟨rfl, rfl⟩ := e
        obtain ⟨l', q1, q2, q3⟩ := rowPart_ok d hr hm
        exact ⟨l', q1, q2, rfl, q3⟩
    cases hx with
    | ground hg =>
      simp only [gr, Option.isNone_iff_eq_none] at hg
      subst hg
      simp only at e
      obtain ⟨l0, h0, h1⟩ := Option.map_eq_some_iff.1 e
      simp only [Prod.mk.injEq] at h1
      obtain ⟨rfl, rfl⟩ := h1
      obtain ⟨q1, q2, q3⟩ := readO_ok _ _ _ h0
      refine ⟨_, _, l0, rfl, RelL.refl q2, q1, .inr ⟨_, rfl, fun i v hv => ?_⟩⟩
      rw [Addr.add_mid]
      obtain ⟨v2, g1, g2⟩ := d.glob.2.2 _ _ _ (q3 i v hv)
      rw [g2.eq (List.all_eq_true.1 q2 v (List.mem_of_getElem? hv))] at g1
      exact g1
    | slice hm =>
      obtain ⟨l', q1, q2, rfl, q3⟩ := part hm e
      exact ⟨_, _, l', rfl, q1, q2, .inr ⟨_, rfl, q3⟩⟩
    | sliceO hm hn =>
      simp only [Nat.beq_refl, cond_true] at e
      obtain ⟨l', q1, q2, rfl, q3⟩ := part hm e
      exact ⟨_, _, l', rfl, q1, q2, .inr ⟨_, rfl, q3⟩⟩
    | sliceE =>
      simp only [Nat.beq_refl, cond_true, Option.some.injEq, Prod.mk.injEq] at e
      obtain ⟨rfl, rfl⟩ := e
      exact ⟨_, _, [], rfl, .nil, by simp, .inl rfl⟩
    | sliceA hm hn =>
      obtain ⟨l', q1, q2, rfl, q3⟩ := part hm e
      exact ⟨_, _, l', rfl, q1, q2, .inr ⟨_, rfl, q3⟩⟩
  · cases e
/-- An append of so many zero values to nil. -/
noncomputable def sZeros (P : Program) (h : SH) (frz : List Nat) (ts : Array TypeId) (s x : Value) : Option (Value × SH) := match ts.toList, s, natV x with
  | [t, t'], .slice none 0 0, some m => match P.underlying t, P.underlying t' with
    | some (.slice e), some (.int _) => match P.info? e with
      | some i => match i.zero with
        | some z => cond (frzLive h frz && Nat.blt 0 i.size && Nat.beq z.cells.size i.size && Nat.ble i.bytes 65536 && z.cells.toList.all (gr 6) && Nat.ble m 65536 && Nat.blt 0 m) (some (.slice (some ⟨h.next, 0, some 1⟩) m 0, h.push (.row e (Builtin.zeroCells z.cells m).toList h.next))) none
        | none => none
      | none => none
    | _, _ => none
  | _, _, _ => none
/-- How many elements of so many bytes an append may come to. -/
def limB (bytes : Nat) : Nat := Nat.div 140737488355328 bytes
theorem limB_le (b : Nat) : limB b ≤ 140737488355328 := Nat.div_le_self _ _
theorem limB_mul {n b : Nat} (h : n ≤ limB b) : n * b ≤ 140737488355328 := Nat.le_trans (Nat.mul_le_mul_right b h) (Nat.div_mul_le_self _ _)
theorem limB_of {n b k K : Nat} (hb : (Nat.blt 0 b && Nat.ble b k) = true) (hK : Nat.ble (Nat.mul K k) 140737488355328 = true) (h : n ≤ K) : Nat.ble n (limB b) = true := by
  simp only [Bool.and_eq_true, Nat.blt_eq, Nat.ble_eq] at hb hK ⊢
  refine (Nat.le_div_iff_mul_le hb.1).2 (Nat.le_trans (Nat.mul_le_mul h hb.2) hK)
noncomputable def sAppend (P : Program) (G : Gl) (h : SH) (frz : List Nat) (ts : Array TypeId) (s x : Value) : Option (Value × SH) := match ts.toList with
  | [t, t'] => cond (Nat.beq t t') (match P.underlying t with
    | some (.slice e) => match P.info? e with
      | some i => match i.zero, sNews G h i.size x with
        | some z, some (m, news) => cond (frzLive h frz && Nat.blt 0 i.size && Nat.beq z.cells.size i.size && Nat.ble i.bytes 65536 && news.all oneV && Nat.ble m (limB i.bytes)) (cond (Nat.beq m 0) (match s with
            | .slice none 0 0 => some (s, h)
            | .slice (some a) n c => match a.spot with
              | some 0 => cond (Nat.ble n c) (some (s, h)) none
              | some _ => some (s, h)
              | none => cond (Nat.ble n c) (some (s, h)) none
            | _ => none)
          (match s with
            | .slice none 0 0 => some (.slice (some ⟨h.next, 0, some 1⟩) m 0, h.push (.row e news h.next))
            | .slice (some a) n c => cond (Nat.ble (m + n) (limB i.bytes)) (match a.spot, h.tr.get a.block with
              | some 0, some (.row ty cs f) => cond (Nat.ble (n + m) c)
                  (cond (Nat.beq a.off 0 && Nat.beq ty e && Nat.ble (n * i.size + news.length) cs.length && frzOk h frz (2 * f)) (some (.slice (some a) (n + m) c, h.put a.block (.row ty (cs.take (n * i.size) ++ news ++ cs.drop (n * i.size + news.length)) f))) none)
                  (match rowPart h a (n * i.size) with
                    | some olds => some (.slice (some ⟨h.next, 0, some 1⟩) (n + m) 0, h.push (.row e (olds ++ news) h.next))
                    | none => none)
              | some 1, some (.row ty cs f) => cond (Nat.beq a.off 0 && Nat.beq ty e && Nat.ble (n * i.size) cs.length && frzOk h frz (2 * f)) (some (.slice (some ⟨h.next, 0, some 1⟩) (n + m) 0, h.grow e (cs.take (n * i.size) ++ news) f (n * i.size))) none
              | none, _ => cond (Nat.beq n 0 && Nat.beq c 0) (some (.slice (some ⟨h.next, 0, some 1⟩) m 0, h.push (.row e news h.next))) none
              | _, _ => none) none
            | _ => none)) none
        | _, _ => none
      | none => none
    | _ => none) none
  | _ => none
/-- A row in a new block that is greater than what is in it. -/
theorem grown_blk (d : Den P N G μ h w) {e : TypeId} {i : TypeInfo} {z : Value} (hi : P.info? e = some i) (hzs : z.cells.size = i.size) {xs : List Value} {X : Array Value} (hX : RelL μ xs X.toList) {tot κ : Nat} (hsz : X.size = tot * i.size) (hk : tot ≤ κ) (f : Nat) :
    BlkOk P N (μ.add h.next w.heap.size κ) (w.drew.alloc (.cells (X ++ Builtin.zeroCells z.cells (κ - tot)) e)) h.next (.row e xs f) := by
  have hle : μ.le (μ.add h.next w.heap.size κ) := Mu.le_add (d.muOld h.next (Nat.le_refl _))
  have hl := hX.length
  simp only [Array.length_toList] at hl
  have hsize : (X ++ Builtin.zeroCells z.cells (κ - tot)).size = κ * i.size := by
    rw [Array.size_append, size_zeroCells, hzs, hsz, ← Nat.add_mul]; congr 1; omega
  refine ⟨w.heap.size, κ, _, i.size, Mu.add_same, d.base.new, heap_alloc_new w.drew _, by rw [hi]; rfl, hsize, ?_, ?_⟩
  · rw [Array.size_append]; omega
  · rw [Array.toList_append, List.take_append, List.take_of_length_le (by simp; omega), ← hl]
    simp only [Array.length_toList, Nat.sub_self, List.take_zero, List.append_nil]
    exact hX.mono hle
theorem run_append_zeros (w : World) (t t' ty e : TypeId) (k' : IntKind) (i : TypeInfo) (z : Value) (ht : P.underlying t = some (.slice e)) (ht' : P.underlying t' = some (.int k')) (hi : P.info? e = some i) (hz : i.zero = some z) (k : IntKind) (n : Nat)
    (h0 : 0 < n) (h1 : n ≤ 65536) (h2 : i.bytes ≤ 65536) (h3 : 0 < i.size) :
    (Builtin.append_ #[t, t'] ty #[.slice none 0 0, .int k (n : Int)]).run P w =
      .ok (.slice (some ⟨w.heap.size, 0, none⟩) n (grownCap w n 0 e)) (w.drew.alloc (.cells (Builtin.zeroCells z.cells n ++ Builtin.zeroCells z.cells (grownCap w n 0 e - n)) e)) := by
  have hn : n ≠ 0 := by omega
  have hw : IntKind.i64.wrap (n : Int) = (n : Int) := by rw [IntKind.wrap_i64]; omega
  have hneg : ¬ ((n : Int) < 0) := by omega
  have hb : n * i.bytes ≤ 65536 * 65536 := Nat.mul_le_mul h1 h2
  have hb' : ¬ ((2 : Int) ^ 48 < (n : Int) * (i.bytes : Int)) := by
    have h9 : ((n * i.bytes : Nat) : Int) ≤ ((65536 * 65536 : Nat) : Int) := Int.ofNat_le.2 hb
    rw [Int.natCast_mul] at h9
    omega
  have h63' : ¬ (9223372036854775807 < (n : Int)) := by omega
  have h48' : ¬ (281474976710656 < Builtin.nextslicecap n 0 * i.bytes) := by rw [nextslicecap_zero h0]; omega
  have hns : n * i.size ≠ 0 := Nat.mul_ne_zero hn (by omega)
  have hs0 : i.size ≠ 0 := by omega
  have hb2 : ¬ (281474976710656 < (n : Int) * (i.bytes : Int)) := by omega
  simp [Builtin.append_, run_underlying ht, run_underlying ht', sizeOf, typeInfo, zeroValue, hi, hz, asInt, asIntOf, hw, hneg, hb2, hn, h63', h48', Builtin.firstCells, Question.forced, newRow, grownCap]
  exact fun q => absurd q hns
theorem sZeros_ok (d : Den P N G μ h w) {ts : Array TypeId} {ty0 : TypeId} {s s' x x' v : Value} {h' : SH} (e : sZeros P h frz ts s x = some (v, h')) (hs : Rel μ s s') (hx : Rel μ x x') : Made P N G μ frz w (Builtin.append_ ts ty0 #[s', x']) v h' := by
  unfold sZeros at e
  split at e
  · rename_i t t' m hts hm
    obtain rfl : ts = #[t, t'] := Array.toList_inj.1 (by simpa using hts)
    obtain ⟨k, rfl, rfl⟩ := natV_rel hm hx
    obtain rfl := hs.eq rfl
    split at e
    · rename_i el kk hu hu'
      split at e
      · rename_i i hi
        split at e
        · rename_i z hz
          cases hc : (frzLive h frz && Nat.blt 0 i.size && Nat.beq z.cells.size i.size && Nat.ble i.bytes 65536 && z.cells.toList.all (gr 6) && Nat.ble m 65536 && Nat.blt 0 m) with
          | false => rw [hc] at e; cases e
          | true =>
            rw [hc] at e
            simp only [cond_true, Option.some.injEq, Prod.mk.injEq] at e
            obtain ⟨rfl, rfl⟩ := e
            simp only [Bool.and_eq_true, Nat.blt_eq] at hc
            obtain ⟨⟨⟨⟨⟨⟨c1, c2⟩, c3⟩, c4⟩, c5⟩, c6⟩, c7⟩ := hc
            have c3 := Nat.eq_of_beq_eq_true c3
            have hr := run_append_zeros (P := P) w t t' ty0 el kk i z hu hu' hi hz k m c7 (Nat.le_of_ble_eq_true c6) (Nat.le_of_ble_eq_true c4) c2
            have hall : (Builtin.zeroCells z.cells m).toList.all (gr 6) = true := all_made c5 (by omega)
            have hge := grownCap_ge w m 0 el
            refine ⟨μ.add h.next w.heap.size (grownCap w m 0 el), _, _, hr, Mu.le_add (d.muOld h.next (Nat.le_refl _)), d.drew.push _ _ _ (fun t' cs' f e => by cases e; rfl) (grown_blk d hi c3 (RelL.refl hall) (by rw [size_zeroCells, c3]) hge _), .sliceO Mu.add_same hge, ((Bel.refl N w).drew).alloc d.base _, fun k hk b2 κ2 hb2 => Below.heap_alloc w.drew _ _ (frz_live d c1 k hk b2 κ2 hb2)⟩
        · cases e
      · cases e
    · cases e
  · cases e
theorem sAppend_ok (d : Den P N G μ h w) {ts : Array TypeId} {ty0 : TypeId} {s s' x x' v : Value} {h' : SH} (e : sAppend P G h frz ts s x = some (v, h')) (hs : Rel μ s s') (hx : Rel μ x x') : Made P N G μ frz w (Builtin.append_ ts ty0 #[s', x']) v h' := by
  unfold sAppend at e
  split at e
  · rename_i t t' hts
    obtain rfl : ts = #[t, t'] := Array.toList_inj.1 (by simpa using hts)
    cases htt : Nat.beq t t' with
    | false => rw [htt] at e; cases e
    | true =>
      obtain rfl := Nat.eq_of_beq_eq_true htt
      rw [htt] at e
      simp only [cond_true] at e
      split at e
      · rename_i el hu
        split at e
        · rename_i i hi
          split at e
          · rename_i z m news hz hnews
            cases hc : (frzLive h frz && Nat.blt 0 i.size && Nat.beq z.cells.size i.size && Nat.ble i.bytes 65536 && news.all oneV && Nat.ble m (limB i.bytes)) with
            | false => rw [hc] at e; cases e
            | true =>
              rw [hc] at e
              simp only [cond_true] at e
              simp only [Bool.and_eq_true, Nat.blt_eq] at hc
              obtain ⟨⟨⟨⟨⟨c1, c2⟩, c3⟩, c4⟩, c5⟩, c6⟩ := hc
              have c3 := Nat.eq_of_beq_eq_true c3
              have c4 := Nat.le_of_ble_eq_true c4
              have c6 := Nat.le_of_ble_eq_true c6
              have c48 := limB_mul c6
              have c6 := Nat.le_trans c6 (limB_le _)
              obtain ⟨oa, cx, news', rfl, hrn, hnl, hcells⟩ := sNews_ok d hnews hx
              have hnl' : news'.length = m * i.size := by rw [hrn.length, hnl]
              have hone := all_one hrn c5
              cases hm0 : Nat.beq m 0 with
              | true =>
                rw [hm0] at e
                simp only [cond_true] at e
                obtain rfl := Nat.eq_of_beq_eq_true hm0
                -- nothing is appended
                have same : ∀ {ob : Option Addr} {n c : Nat}, s' = .slice ob n c → n ≤ c → (Builtin.append_ #[t, t] ty0 #[s', .slice oa 0 cx]).run P w = .ok s' w := fun hs' hnc => by
                  subst hs'
                  have hf : ∀ w : World, (Builtin.firstCells i.size 0 (.slice oa 0 cx)).run P w = .ok #[] w := fun w => by
                    cases oa <;> simp [Builtin.firstCells, loadCells, loadCellsFrom]
                  rename_i ob n c
                  cases ob <;> simp [Builtin.append_, run_underlying hu, sizeOf, typeInfo, hi, Builtin.lenOf, hnc, hf, storeCells]
                have fin : v = s ∧ h' = h → (Builtin.append_ #[t, t] ty0 #[s', .slice oa 0 cx]).run P w = .ok s' w → Made P N G μ frz w (Builtin.append_ #[t, t] ty0 #[s', .slice oa 0 cx]) v h' := by
                  rintro ⟨rfl, rfl⟩ hrun
                  exact ⟨μ, s', w, hrun, Mu.le_refl _, d, hs, Bel.refl _ _, Keep.refl⟩
                split at e
                · cases e
                  obtain rfl := hs.eq rfl
                  exact fin ⟨rfl, rfl⟩ (same rfl (Nat.le_refl _))
                · rename_i a n c
                  obtain ⟨blk, off, sp⟩ := a
                  cases hs with
                  | ground hg =>
                    simp only [gr, Option.isNone_iff_eq_none] at hg
                    subst hg
                    simp only at e
                    cases hnc : Nat.ble n c with
                    | false => rw [hnc] at e; cases e
                    | true =>
                      rw [hnc] at e
                      cases e
                      exact ⟨μ, _, w, same rfl (Nat.le_of_ble_eq_true hnc), Mu.le_refl _, d, .ground rfl, Bel.refl _ _, Keep.refl⟩
                  | slice hm =>
                    simp only at e
                    cases hnc : Nat.ble n c with
                    | false => rw [hnc] at e; cases e
                    | true =>
                      rw [hnc] at e
                      cases e
                      exact ⟨μ, _, w, same rfl (Nat.le_of_ble_eq_true hnc), Mu.le_refl _, d, .slice hm, Bel.refl _ _, Keep.refl⟩
                  | sliceO hm hn =>
                    cases e
                    exact ⟨μ, _, w, same rfl hn, Mu.le_refl _, d, .sliceO hm hn, Bel.refl _ _, Keep.refl⟩
                  | sliceE =>
                    cases e
                    exact ⟨μ, _, w, same rfl (Nat.zero_le _), Mu.le_refl _, d, .sliceE, Bel.refl _ _, Keep.refl⟩
                  | sliceA hm hn =>
                    cases e
                    exact ⟨μ, _, w, same rfl hn, Mu.le_refl _, d, .sliceA hm hn, Bel.refl _ _, Keep.refl⟩
                · cases e
              | false =>
                rw [hm0] at e
                simp only [cond_false] at e
                have hmp : 0 < m := by
                  rcases Nat.eq_zero_or_pos m with q | q
                  · subst q; cases hm0
                  · exact q
                obtain ⟨a, rfl, hcell⟩ := hcells.resolve_left (by omega)
                have hkeep : ∀ (o : Obj), Keep μ frz w (w.drew.alloc o) := fun o k hk b2 κ2 hb2 => Below.heap_alloc w.drew o _ (frz_live d c1 k hk b2 κ2 hb2)
                have hbel : ∀ (o : Obj), Bel N w (w.drew.alloc o) := fun o => ((Bel.refl N w).drew).alloc d.base o
                have hnone := d.muOld h.next (Nat.le_refl _)
                have hle : ∀ b κ, μ.le (μ.add h.next b κ) := fun b κ => Mu.le_add hnone
                -- a new row, of a family of its own
                have fresh : ∀ {tot κ : Nat} {xs : List Value} {X : Array Value}, RelL μ xs X.toList → X.size = tot * i.size → tot ≤ κ →
                    (Builtin.append_ #[t, t] ty0 #[s', .slice (some a) m cx]).run P w = .ok (.slice (some ⟨w.heap.size, 0, none⟩) tot κ) (w.drew.alloc (.cells (X ++ Builtin.zeroCells z.cells (κ - tot)) el)) →
                    Made P N G μ frz w (Builtin.append_ #[t, t] ty0 #[s', .slice (some a) m cx]) (.slice (some ⟨h.next, 0, some 1⟩) tot 0) (h.push (.row el xs h.next)) := fun hX hXs hk hrun => by
                  rename_i tot κ xs X
                  refine ⟨μ.add h.next w.heap.size κ, _, _, hrun, hle _ _, d.drew.push _ κ _ (fun t' cs' f e => by cases e; rfl) (grown_blk d hi c3 hX hXs hk _), .sliceO Mu.add_same hk, hbel _, hkeep _⟩
                split at e
                · cases e
                  obtain rfl := hs.eq rfl
                  have hr := run_append_nil (P := P) w t ty0 el i z hu hi hz a m cx news' hnl' hcell hmp (by omega) (by omega)
                  exact fresh (X := news'.toArray) (by simpa using hrn) (by simpa using hnl') (grownCap_ge w m 0 el) (by simpa using hr)
                · rename_i sa n c
                  obtain ⟨blk, off, sp⟩ := sa
                  cases hn6 : Nat.ble (m + n) (limB i.bytes) with
                  | false => rw [hn6] at e; cases e
                  | true =>
                    rw [hn6] at e
                    simp only [cond_true] at e
                    have hn6 : m + n ≤ limB i.bytes := Nat.le_of_ble_eq_true hn6
                    have hb48 : (n + m) * i.bytes ≤ 140737488355328 := by rw [Nat.add_comm]; exact limB_mul hn6
                    have hn6 : m + n ≤ 140737488355328 := Nat.le_trans hn6 (limB_le _)
                    split at e
                    · -- its room is known
                      rename_i ty cs f hget
                      cases hs with
                      | ground hg => simp [gr] at hg
                      | slice hm =>
                        rename_i b κ
                        obtain ⟨b', κ', cur, sz, g1, g2, g3, g4, g5, g6, g7⟩ := d.blk _ _ hget
                        rw [hm] at g1; cases g1
                        cases hroom : Nat.ble (n + m) c with
                        | true =>
                          rw [hroom] at e
                          simp only [cond_true] at e
                          cases hcc : (Nat.beq off 0 && Nat.beq ty el && Nat.ble (n * i.size + news.length) cs.length && frzOk h frz (2 * f)) with
                          | false => rw [hcc] at e; cases e
                          | true =>
                            rw [hcc] at e
                            simp only [cond_true, Option.some.injEq, Prod.mk.injEq] at e
                            obtain ⟨rfl, rfl⟩ := e
                            simp only [Bool.and_eq_true] at hcc
                            obtain ⟨⟨⟨q1, q2⟩, q3⟩, q4⟩ := hcc
                            obtain rfl := Nat.eq_of_beq_eq_true q1
                            obtain rfl := Nat.eq_of_beq_eq_true q2
                            have q3 := Nat.le_of_ble_eq_true q3
                            have hlen := hrn.length
                            have hr := run_append_room (P := P) w t ty0 ty i hu hi b n c cur g3 a m cx news' hnl' hcell hone (Nat.le_of_ble_eq_true hroom) (by omega)
                            refine ⟨μ, _, _, hr, Mu.le_refl _, ?_, .slice hm, bel_setRow (Bel.refl N w) g2 _, fun k hk b2 κ2 hb2 => setRow_other w b b2 _ (frz_apart d hget (by simpa [famOf] using q4) hm k hk b2 κ2 hb2)⟩
                            refine d.put hget ?_ ?_ (fun b2 κ2 hb2 k hk => ?_) ?_
                            · rfl
                            · exact size_setRow w b _
                            · rw [hm] at hb2; cases hb2
                              exact setRow_other w b k _ hk
                            · refine ⟨b, κ, _, sz, hm, g2, setRow_heap w b cur _ ty _ g3, g4, ?_, ?_, row_store g7 g6 hrn q3⟩
                              · rw [← g5]; simp; omega
                              · simp; omega
                        | false =>
                          rw [hroom] at e
                          simp only [cond_false] at e
                          split at e
                          · rename_i olds hold
                            cases e
                            obtain ⟨olds', ho1, ho2, ho3⟩ := rowPart_ok d hold (b := b) (κ := κ) hm
                            have hlt : c < n + m := by
                              rcases Nat.lt_or_ge c (n + m) with q | q
                              · exact q
                              · rw [Nat.ble_eq_true_of_le q] at hroom; cases hroom
                            have hr := run_append_grow (P := P) w t ty0 el i z hu hi hz ⟨b, off, none⟩ n c olds' (by rw [ho1.length, ho2]) ho3 a m cx news' hnl' hcell hlt (by omega) (growslice_fits hlt hb48)
                            exact fresh (X := olds'.toArray ++ news'.toArray) (by simpa using ho1.append hrn) (by
                              have := ho1.length
                              simp only [Array.size_append, List.size_toArray]; rw [this, ho2, hnl', Nat.add_mul]) (grownCap_ge w (n + m) c el) hr
                          · cases e
                    · -- its room is its block's
                      rename_i ty cs f hget
                      cases hs with
                      | ground hg => simp [gr] at hg
                      | sliceO hm hn =>
                        rename_i b κ
                        cases hcc : (Nat.beq 0 0 && Nat.beq ty el && Nat.ble (n * i.size) cs.length && frzOk h frz (2 * f)) with
                        | false => rw [hcc] at e; cases e
                        | true =>
                          rw [hcc] at e
                          simp only [cond_true, Option.some.injEq, Prod.mk.injEq] at e
                          obtain ⟨rfl, rfl⟩ := e
                          simp only [Bool.and_eq_true] at hcc
                          obtain ⟨⟨⟨_, q2⟩, q3⟩, q4⟩ := hcc
                          obtain rfl := Nat.eq_of_beq_eq_true q2
                          have q3 := Nat.le_of_ble_eq_true q3
                          obtain ⟨b', κ', cur, sz, g1, g2, g3, g4, g5, g6, g7⟩ := d.blk _ _ hget
                          rw [hm] at g1; cases g1
                          rw [hi] at g4
                          simp only [Option.map_some, Option.some.injEq] at g4
                          subst g4
                          have hlen := hrn.length
                          have ht7 : RelL μ (cs.take (n * i.size)) (cur.toList.take (n * i.size)) := by
                            have := g7.take (n * i.size)
                            rwa [List.take_take, Nat.min_eq_left q3] at this
                          have hadd : (n + m) * i.size = n * i.size + m * i.size := Nat.add_mul _ _ _
                          by_cases hroom : n + m ≤ κ
                          · have hcap : (n + m) * i.size ≤ cur.size := by rw [g5]; exact Nat.mul_le_mul_right _ hroom
                            have hr := run_append_room (P := P) w t ty0 ty i hu hi b n κ cur g3 a m cx news' hnl' hcell hone hroom (by omega)
                            have hsz' : (cur.toList.take (n * i.size) ++ news' ++ cur.toList.drop (n * i.size + news'.length)).toArray.size = cur.size := by simp; omega
                            refine ⟨μ.add h.next b κ, _, _, hr, hle _ _, ?_, .sliceO Mu.add_same hroom, bel_setRow (Bel.refl N w) g2 _, fun k hk b2 κ2 hb2 => setRow_other w b b2 _ (frz_apart d hget (by simpa [famOf] using q4) hm k hk b2 κ2 hb2)⟩
                            refine d.grow hget _ (by simp) (.inl ⟨κ, hm, fun k hk => setRow_other w b k _ hk, cur, _, g3, setRow_heap w b cur _ ty _ g3, hsz', ?_⟩) ?_
                            · simp only [List.append_assoc]
                              rw [List.take_append, List.take_take, Nat.min_self, List.length_take, Array.length_toList, Nat.min_eq_left (by omega), Nat.sub_self, List.take_zero, List.append_nil]
                            · refine ⟨b, κ, _, i.size, Mu.add_same, g2, setRow_heap w b cur _ ty _ g3, by rw [hi]; rfl, by rw [hsz']; exact g5, ?_, ?_⟩
                              · rw [hsz', List.length_append, List.length_take, Nat.min_eq_left q3, hnl]; omega
                              · have : (cs.take (n * i.size) ++ news).length = n * i.size + news'.length := by rw [List.length_append, List.length_take, Nat.min_eq_left q3, hlen]
                                rw [this]
                                have e3 : (cur.toList.take (n * i.size) ++ news' ++ cur.toList.drop (n * i.size + news'.length)).toArray.toList.take (n * i.size + news'.length) = cur.toList.take (n * i.size) ++ news' := by
                                  have hl2 : (cur.toList.take (n * i.size) ++ news').length = n * i.size + news'.length := by rw [List.length_append, List.length_take, Array.length_toList, Nat.min_eq_left (by omega)]
                                  rw [← hl2]
                                  exact List.take_left
                                rw [e3]
                                exact (ht7.append hrn).mono (hle _ _)
                          · have hlt : κ < n + m := by omega
                            have holds : ∀ j u, (cur.toList.take (n * i.size))[j]? = some u → w.cell? ((⟨b, 0, none⟩ : Addr).add j) = some u := fun j u hj => by
                              rw [Addr.add_mid, Nat.zero_add]
                              rw [List.getElem?_take] at hj
                              split at hj
                              · simp only [World.cell?, g3]; simpa using hj
                              · cases hj
                            have hol : (cur.toList.take (n * i.size)).length = n * i.size := by rw [List.length_take, Array.length_toList, Nat.min_eq_left (by omega)]
                            have hr := run_append_grow (P := P) w t ty0 ty i z hu hi hz ⟨b, 0, none⟩ n κ (cur.toList.take (n * i.size)) hol holds a m cx news' hnl' hcell hlt (by omega) (growslice_fits hlt hb48)
                            have hge := grownCap_ge w (n + m) κ ty
                            refine ⟨μ.add h.next w.heap.size (grownCap w (n + m) κ ty), _, _, hr, hle _ _, ?_, .sliceO Mu.add_same hge, hbel _, hkeep _⟩
                            refine d.drew.grow hget _ (by simp) (.inr ⟨rfl, fun k hk => Below.heap_alloc w.drew _ _ hk⟩) ?_
                            exact grown_blk d hi c3 (X := (cur.toList.take (n * i.size)).toArray ++ news'.toArray) (by simpa using ht7.append hrn) (by
                              simp only [Array.size_append, List.size_toArray]; rw [hol, hnl', hadd]) hge f
                    · -- there was nothing in it, and no room
                      cases hcc : (Nat.beq n 0 && Nat.beq c 0) with
                      | false => rw [hcc] at e; cases e
                      | true =>
                        rw [hcc] at e
                        simp only [cond_true, Option.some.injEq, Prod.mk.injEq] at e
                        obtain ⟨rfl, rfl⟩ := e
                        rw [Bool.and_eq_true] at hcc
                        obtain rfl := Nat.eq_of_beq_eq_true hcc.1
                        obtain rfl := Nat.eq_of_beq_eq_true hcc.2
                        obtain rfl := hs.eq rfl
                        have hlt : 0 < 0 + m := by omega
                        have hr := run_append_grow (P := P) w t ty0 el i z hu hi hz ⟨blk, off, none⟩ 0 0 [] (by simp) (fun j u hj => by simp at hj) a m cx news' hnl' hcell hlt (by omega) (growslice_fits hlt hb48)
                        rw [Nat.zero_add] at hr
                        exact fresh (X := ([] : List Value).toArray ++ news'.toArray) (by simpa using hrn) (by simpa using hnl') (grownCap_ge w m 0 el) hr
                    · cases e
                · cases e
          · cases e
        · cases e
      · cases e
  · cases e
def rowAddr : Value → Option (Addr × Nat)
  | .slice (some a) n _ => match a.spot with
    | some 0 | some 3 => some (a, n)
    | some 1 => cond (Nat.beq a.off 0) (some (a, n)) none
    | _ => none
  | _ => none
theorem rowAddr_ok {x x' : Value} {a : Addr} {n : Nat} (e : rowAddr x = some (a, n)) (hx : Rel μ x x') : ∃ b κ c', x' = .slice (some ⟨b, a.off, none⟩) n c' ∧ μ a.block = some (b, κ) := by
  unfold rowAddr at e
  split at e
  · rename_i a0 m c
    obtain ⟨blk, off, sp⟩ := a0
    cases hx with
    | ground hg => simp only [gr, Option.isNone_iff_eq_none] at hg; subst hg; cases e
    | slice hm => simp only [Option.some.injEq, Prod.mk.injEq] at e; obtain ⟨rfl, rfl⟩ := e; exact ⟨_, _, _, rfl, hm⟩
    | sliceO hm hn => simp only [Nat.beq_refl, cond_true, Option.some.injEq, Prod.mk.injEq] at e; obtain ⟨rfl, rfl⟩ := e; exact ⟨_, _, _, rfl, hm⟩
    | sliceE => cases e
    | sliceA hm hn => simp only [Option.some.injEq, Prod.mk.injEq] at e; obtain ⟨rfl, rfl⟩ := e; exact ⟨_, _, _, rfl, hm⟩
  · cases e
/-- A copy of a slice into another. -/
noncomputable def sCopy (P : Program) (G : Gl) (h : SH) (frz : List Nat) (ts : Array TypeId) (d s : Value) : Option (Value × SH) := match ts[0]?, rowAddr d with
  | some t, some (a, n) => match P.underlying t with
    | some (.slice e) => match P.info? e with
      | some i => match sNews G h i.size s, h.tr.get a.block with
        | some (m, l), some (.row ty cs f) => cond (frzOk h frz (2 * f) && l.all oneV && Nat.ble (a.off + (l.take (Nat.min m n * i.size)).length) cs.length) (some (.int .i64 ((Nat.min m n : Nat) : Int), h.put a.block (.row ty (cs.take a.off ++ l.take (Nat.min m n * i.size) ++ cs.drop (a.off + (l.take (Nat.min m n * i.size)).length)) f))) none
        | _, _ => none
      | none => none
    | _ => none
  | _, _ => none
theorem sCopy_ok (d : Den P N G μ h w) {ts : Array TypeId} {ty0 : TypeId} {x x' s s' v : Value} {h' : SH} (e : sCopy P G h frz ts x s = some (v, h')) (hx : Rel μ x x') (hs : Rel μ s s') : Made P N G μ frz w (Builtin.copy_ ts ty0 #[x', s']) v h' := by
  unfold sCopy at e
  split at e
  · rename_i t a n ht ha
    split at e
    · rename_i el hu
      split at e
      · rename_i i hi
        split at e
        · rename_i m l ty cs f hn hget
          cases hc : (frzOk h frz (2 * f) && l.all oneV && Nat.ble (a.off + (l.take (Nat.min m n * i.size)).length) cs.length) with
          | false => rw [hc] at e; cases e
          | true =>
            rw [hc] at e
            simp only [cond_true, Option.some.injEq, Prod.mk.injEq] at e
            obtain ⟨rfl, rfl⟩ := e
            simp only [Bool.and_eq_true] at hc
            obtain ⟨⟨c1, c2⟩, c3⟩ := hc
            have c3 := Nat.le_of_ble_eq_true c3
            obtain ⟨b, κ, cx, rfl, hm⟩ := rowAddr_ok ha hx
            obtain ⟨oa, cs', l', rfl, hrl, hll, hcell⟩ := sNews_ok d hn hs
            obtain ⟨b', κ', cur, sz, g1, g2, g3, g4, g5, g6, g7⟩ := d.blk _ _ hget
            rw [hm] at g1; cases g1
            have hlen := hrl.length
            have hrt := hrl.take (Nat.min m n * i.size)
            have htl : (l'.take (Nat.min m n * i.size)).length = Nat.min m n * i.size := by
              rw [List.length_take, hlen, hll]
              exact Nat.min_eq_left (Nat.mul_le_mul_right _ (Nat.min_le_left _ _))
            have htl2 := hrt.length
            have hone := all_one hrl c2
            have hone' : ∀ v ∈ l'.take (Nat.min m n * i.size), v.oneCell' = true := fun v hv => hone v (List.mem_of_mem_take hv)
            have hst := run_storeCells_at P b a.off ty (l'.take (Nat.min m n * i.size)) 0 cur w g3 (by omega) hone'
            simp only [Nat.add_zero] at hst
            have hfc : (Builtin.firstCells i.size (Nat.min m n) (.slice oa m cs')).run P w = .ok (l'.take (Nat.min m n * i.size)).toArray w := by
              rcases hcell with h0 | ⟨a2, rfl, hcell⟩
              · subst h0
                have : l'.take (Nat.min 0 n * i.size) = [] := by simp
                rw [this]
                cases oa <;> simp [Builtin.firstCells, loadCells, loadCellsFrom]
              · simp only [Builtin.firstCells]
                have := run_loadCells_list (P := P) w a2 (l'.take (Nat.min m n * i.size)) (fun j v hv => by
                  rw [List.getElem?_take] at hv
                  split at hv
                  · exact hcell j v hv
                  · cases hv)
                rw [htl] at this
                exact this
            have hts0 : ts[0]? = some t := ht
            refine ⟨μ, .int .i64 ((Nat.min m n : Nat) : Int), w.setRow b (cur.toList.take a.off ++ l'.take (Nat.min m n * i.size) ++ cur.toList.drop (a.off + (l'.take (Nat.min m n * i.size)).length)).toArray, ?_, Mu.le_refl _, ?_, .ground rfl, bel_setRow (Bel.refl N w) g2 _, fun k hk b2 κ2 hb2 => setRow_other w b b2 _ (frz_apart d hget (by simpa [famOf] using c1) hm k hk b2 κ2 hb2)⟩
            · unfold Builtin.copy_
              simp only [hts0, List.getElem?_toArray, List.getElem?_cons_zero, List.getElem?_cons_succ, Sem.run_bind, run_underlying hu w, Result.andThen_ok, Builtin.lenOf, Sem.run_pure, sizeOf, typeInfo, run_program, hi, hfc, hst, goInt]
            · refine d.put hget ?_ ?_ (fun b2 κ2 hb2 k hk => ?_) ?_
              · rfl
              · exact size_setRow w b _
              · rw [hm] at hb2; cases hb2
                exact setRow_other w b k _ hk
              · refine ⟨b, κ, _, sz, hm, g2, setRow_heap w b cur _ ty _ g3, g4, ?_, ?_, row_store g7 g6 hrt c3⟩
                · rw [← g5]; simp; simp at htl2 htl c3; omega
                · simp; simp at htl2 htl c3; omega
        · cases e
      · cases e
    · cases e
  · cases e
noncomputable def sClear (P : Program) (h : SH) (frz : List Nat) (ts : Array TypeId) (x : Value) : Option (Value × SH) := match ts[0]? with
  | some t => match P.underlying t, x with
    | some _, .slice _ 0 _ => some (.tuple #[], h)
    | some (.slice e), .slice (some a) (n + 1) _c => match P.info? e with
      | some i => match i.zero, h.tr.get a.block with
        | some z, some (.row ty cs f) => cond (frzOk h frz (2 * f) && (match a.spot with | some 0 | some 3 => true | some 1 => Nat.beq a.off 0 | _ => false) && (Builtin.zeroCells z.cells (n + 1)).toList.all (gr 6) && (Builtin.zeroCells z.cells (n + 1)).toList.all oneV && Nat.ble (a.off + (Builtin.zeroCells z.cells (n + 1)).toList.length) cs.length)
            (some (.tuple #[], h.put a.block (.row ty (cs.take a.off ++ (Builtin.zeroCells z.cells (n + 1)).toList ++ cs.drop (a.off + (Builtin.zeroCells z.cells (n + 1)).toList.length)) f))) none
        | _, _ => none
      | none => none
    | _, _ => none
  | none => none
theorem sClear_ok (d : Den P N G μ h w) {ts : Array TypeId} {ty0 : TypeId} {x x' v : Value} {h' : SH} (e : sClear P h frz ts x = some (v, h')) (hx : Rel μ x x') : Made P N G μ frz w (Builtin.clear_ ts ty0 #[x']) v h' := by
  unfold sClear at e
  split at e
  · rename_i t ht
    split at e
    · rename_i dsc oa c hu
      cases e
      obtain ⟨oa', c', rfl⟩ : ∃ oa' c', x' = .slice oa' 0 c' := by cases hx <;> exact ⟨_, _, rfl⟩
      refine ⟨μ, .tuple #[], w, ?_, Mu.le_refl _, d, .ground rfl, Bel.refl N w, Keep.refl⟩
      unfold Builtin.clear_
      simp only [ht, List.getElem?_toArray, List.getElem?_cons_zero, Sem.run_bind, run_underlying hu w, Result.andThen_ok]
      cases oa' <;> cases dsc <;> rfl
    · rename_i el a n c hu
      split at e
      · rename_i i hi
        split at e
        · rename_i z ty cs f hz hget
          generalize hq : Builtin.zeroCells z.cells (n + 1) = q at e
          cases hc : (frzOk h frz (2 * f) && (match a.spot with | some 0 | some 3 => true | some 1 => Nat.beq a.off 0 | _ => false) && q.toList.all (gr 6) && q.toList.all oneV && Nat.ble (a.off + q.toList.length) cs.length) with
          | false => rw [hc] at e; cases e
          | true =>
            rw [hc] at e
            simp only [cond_true, Option.some.injEq, Prod.mk.injEq] at e
            obtain ⟨rfl, rfl⟩ := e
            simp only [Bool.and_eq_true] at hc
            obtain ⟨⟨⟨⟨c1, c2⟩, c3⟩, c4⟩, c5⟩ := hc
            have c5 := Nat.le_of_ble_eq_true c5
            obtain ⟨b, κ, cx, rfl, hm⟩ := rel_slice hx c2
            obtain ⟨b', κ', cur, sz, g1, g2, g3, g4, g5, g6, g7⟩ := d.blk _ _ hget
            rw [hm] at g1; cases g1
            have hrel : RelL μ q.toList q.toList := RelL.refl c3
            have hone := all_one hrel c4
            have hst := run_storeCells_at P b a.off ty q.toList 0 cur w g3 (by omega) hone
            simp only [Nat.add_zero] at hst
            refine ⟨μ, .tuple #[], w.setRow b (cur.toList.take a.off ++ q.toList ++ cur.toList.drop (a.off + q.toList.length)).toArray, ?_, Mu.le_refl _, ?_, .ground rfl, bel_setRow (Bel.refl N w) g2 _, fun k hk b2 κ2 hb2 => setRow_other w b b2 _ (frz_apart d hget (by simpa [famOf] using c1) hm k hk b2 κ2 hb2)⟩
            · unfold Builtin.clear_
              simp only [ht, List.getElem?_toArray, List.getElem?_cons_zero, Sem.run_bind, run_underlying hu w, Result.andThen_ok, zeroValue, typeInfo, run_program, hi, hz, Sem.run_pure, hq, hst]
            · refine d.put hget ?_ ?_ (fun b2 κ2 hb2 k hk => ?_) ?_
              · rfl
              · exact size_setRow w b _
              · rw [hm] at hb2; cases hb2
                exact setRow_other w b k _ hk
              · refine ⟨b, κ, _, sz, hm, g2, setRow_heap w b cur _ ty _ g3, g4, ?_, ?_, row_store g7 g6 hrel c5⟩
                · rw [← g5]; simp; simp at c5; omega
                · simp; simp at c5; omega
        · cases e
      · cases e
    · cases e
  · cases e
end
end Go.Proofs.Ytpaabfecoghibaa

/- A region that draws its order, carried out in one order that is enough, in whatever round a frame is. Over any program. Conditions: as each law says. -/
namespace Go.Proofs.Ytpaabfecoghibaa
open Go
set_option linter.unusedSimpArgs false
set_option linter.unusedVariables false
section
variable {F : Fence} {n : Nat} {P : Program} {ops : Array Oper} {Q : Exit → Act → World → Prop} {md : Region.Mode} {S : World → Prop}
theorem yieldsIf_wpOpInX {i : Nat} {o : Oper} {v : Value} {a : Act} (hro : ∀ (i : Nat) (o : Oper) (ρ : Operand → Value), ops[i]? = some o → o.semAt F.round ρ = execOp ρ o) (hF : ∀ f, F.fn f) (hi : ops[i]? = some o) (hy : YieldsIf P ops S o v a)
    {K : Act → World → Prop} {w : World} (hS : S w) (h : K (a.put o.dst v) w) : wpOpIn F n P ops Q i K a w := by
  unfold Go.wpOpIn
  simp only [hi]
  rcases hy with ⟨hw, hv⟩ | ⟨hw, rfl⟩
  · simp only [hw, if_true, Oper.wpIn, hro i o _ hi, hv w hS, Oper.uponIn]; exact ⟨fun f _ => hF f, h⟩
  · simp only [hw, Bool.false_eq_true, if_false]; exact ⟨fun f _ => hF f, h⟩
theorem wpOpIn_putIfX {j : Nat} {oi oj : Oper} {v : Value} (hro : ∀ (i : Nat) (o : Oper) (ρ : Operand → Value), ops[i]? = some o → o.semAt F.round ρ = execOp ρ o) (hF : ∀ f, F.fn f) (hj : ops[j]? = some oj) (hap : oi.apart ops oj = true)
    (hsi : ∀ cs b, oi.op ≠ .select cs b) (hsj : ∀ cs b, oj.op ≠ .select cs b)
    (hQ : ∀ c a w, Q (.panic c) (a.put oi.dst v) w → Q (.panic c) a w) {K : Act → World → Prop} {a : Act} {w : World}
    (hy : YieldsIf P ops S oi v a) (h : wpOpIn F n P ops Q j K (a.put oi.dst v) w) :
    wpOpIn F n P ops Q j (fun a' w' => YieldsIf P ops S oi v a' ∧ K (a'.put oi.dst v) w') a w := by
  have hroj : ∀ ρ : Operand → Value, oj.semAt F.round ρ = execOp ρ oj := fun ρ => hro j oj ρ hj
  clear hro
  obtain ⟨h1, h2, h3⟩ := Oper.apart_spec hap
  have keep : ∀ (a : Act), YieldsIf P ops S oi v a → ∀ u, YieldsIf P ops S oi v (a.put oj.dst u) := fun a hy u =>
    hy.of_same (execOp_put oi hsi a oj.dst u h3) (wanted_put oi a oj.dst u h3)
  have keepD : ∀ d, YieldsIf P ops S oi v { a with defers := d :: a.defers } := fun d => hy.of_same rfl rfl
  unfold wpOpIn at *
  simp only [hj] at *
  rw [wanted_put oj a oi.dst v h1] at h
  split
  · rename_i hw
    simp only [hw, if_true] at h
    unfold Oper.wpIn at *
    refine ⟨fun f _ => hF f, ?_⟩
    have h := h.2
    rw [hroj, execOp_put oj hsj a oi.dst v h1] at h
    rw [hroj]
    generalize (execOp a.eval oj).run P w = r at *
    cases r with
    | ok x w' =>
      cases x <;> simp only [Oper.uponIn] at h ⊢
      case value u => exact ⟨keep a hy u, by rw [← Act.put_comm a v u h2]; exact h⟩
      case skip => exact ⟨keep a hy _, by rw [← Act.put_comm a v undef h2]; exact h⟩
      case defer d =>
        refine ⟨keep _ (keepD d) _, ?_⟩
        rw [← Act.put_comm _ v undef h2, ← Act.put_defers]
        exact h
      case enter f args =>
        refine ⟨h.1, CallsIn.mono h.2 fun e w'' he => ?_⟩
        cases e with
        | returned u => exact ⟨keep a hy u, by rw [← Act.put_comm a v u h2]; exact he⟩
        | panicked c => exact hQ _ _ _ he
        | outgrown => exact he
      case row row args => exact ⟨h.1, RowsIn.mono h.2 fun u w'' he => ⟨keep a hy u, by rw [← Act.put_comm a v u h2]; exact he⟩⟩
      case round l f tmps assign body =>
        refine ⟨h.1, RoundIn.mono h.2 fun e w'' he => ?_⟩
        cases e with
        | returned u => exact ⟨keep a hy u, by rw [← Act.put_comm a v u h2]; exact he⟩
        | panicked c => exact hQ _ _ _ he
        | outgrown => exact he
    | halt x w' =>
      cases x <;> simp only [Oper.uponIn] at h ⊢
      case panic u => exact hQ _ _ _ h
  · rename_i hw
    simp only [hw] at h
    exact ⟨fun f _ => hF f, keep a hy _, by rw [← Act.put_comm a v undef h2]; exact h.2⟩
/-- Whatever order is picked from here on, and S holds behind each operation that is carried out. -/
def wpAnyHInX (F : Fence) (n : Nat) (P : Program) (md : Region.Mode) (ops : Array Oper) (Q : Exit → Act → World → Prop) (S : World → Prop) : Nat → Array Bool → Act → World → Prop
  | 0, listed, a, w => Region.ready md ops listed = [] ∧ Q .normal a w
  | fuel + 1, listed, a, w =>
    (Region.ready md ops listed = [] → Q .normal a w) ∧
    ∀ i ∈ Region.ready md ops listed, wpOpIn F n P ops Q i (fun a' w' => S w' ∧ wpAnyHInX F n P md ops Q S fuel (listed.setIfInBounds i true) a' w') a w
theorem wpAnyIn_of_heldX : ∀ (fuel : Nat) (listed : Array Bool) (a : Act) (w : World), wpAnyHInX F n P md ops Q S fuel listed a w → wpAnyIn F n P md ops Q fuel listed a w
  | 0, _, _, _, h => h
  | fuel + 1, _, _, _, h => ⟨h.1, fun i hi => wpOpIn_mono (fun a' w' h' => wpAnyIn_of_heldX fuel _ a' w' h'.2) (h.2 i hi)⟩
theorem wpAnyHInX_firstX {i : Nat} {oi : Oper} {v : Value} (hro : ∀ (i : Nat) (o : Oper) (ρ : Operand → Value), ops[i]? = some o → o.semAt F.round ρ = execOp ρ o) (hF : ∀ f, F.fn f) (hi : ops[i]? = some oi) (hsel : ∀ (j : Nat) (o : Oper) cs b, ops[j]? = some o → o.op ≠ .select cs b)
    (hQ : ∀ c a w, Q (.panic c) (a.put oi.dst v) w → Q (.panic c) a w) :
    ∀ (fuel : Nat) (listed : Array Bool) (a : Act) (w : World),
      (∀ j oj, ops[j]? = some oj → j ≠ i → listed.getD j true = false → (∀ e ∈ oj.after, Region.binds md e = true → e.on ≠ i) → oi.apart ops oj = true) →
      i ∈ Region.ready md ops listed → YieldsIf P ops S oi v a → S w →
      wpAnyHInX F n P md ops Q S fuel (listed.setIfInBounds i true) (a.put oi.dst v) w → wpAnyHInX F n P md ops Q S (fuel + 1) listed a w := by
  intro fuel
  induction fuel with
  | zero =>
    intro listed a w _ hr hy hS H
    refine ⟨fun h => (by rw [h] at hr; cases hr), fun j hj => ?_⟩
    by_cases hji : j = i
    · subst hji; exact yieldsIf_wpOpInX hro hF hi hy hS ⟨hS, H⟩
    · have := ready_mono hj hji
      rw [H.1] at this
      cases this
  | succ fuel ih =>
    intro listed a w hfree hr hy hS H
    refine ⟨fun h => (by rw [h] at hr; cases hr), fun j hj => ?_⟩
    by_cases hji : j = i
    · subst hji; exact yieldsIf_wpOpInX hro hF hi hy hS ⟨hS, H⟩
    · have h1 := H.2 j (ready_mono hj hji)
      obtain ⟨hjun, oj, hoj, hall⟩ := mem_ready.1 hj
      have hnot : ∀ e ∈ oj.after, Region.binds md e = true → e.on ≠ i := fun e he hb heq => by
        have h1 := hall e he hb
        have h0 := (mem_ready.1 hr).1
        rw [heq] at h1
        rcases Nat.lt_or_ge i listed.size with h' | h'
        · simp [h'] at h0 h1; rw [h0] at h1; cases h1
        · simp [Array.getElem?_eq_none h'] at h1
      have h2 := wpOpIn_putIfX hro hF hoj (hfree j oj hoj hji hjun hnot) (fun cs b => hsel i oi cs b hi) (fun cs b => hsel j oj cs b hoj) hQ hy h1
      have hfree' : ∀ k ok, ops[k]? = some ok → k ≠ i → (listed.setIfInBounds j true).getD k true = false →
          (∀ e ∈ ok.after, Region.binds md e = true → e.on ≠ i) → oi.apart ops ok = true := fun k ok hk hki hun hno => by
        refine hfree k ok hk hki ?_ hno
        by_cases hjk : j = k
        · subst hjk; exact hjun
        · rw [getD_set_ne true hjk] at hun; exact hun
      refine wpOpIn_mono (fun a' w' h3 => ⟨h3.2.1, ih (listed.setIfInBounds j true) a' w' hfree' (ready_mono hr (Ne.symm hji)) h3.1 h3.2.1 ?_⟩) h2
      rw [Array.setIfInBounds_comm _ _ hji]
      exact h3.2.2
theorem wpAnyHInX_doneX {listed : Array Bool} {a : Act} {w : World} (hr : Region.ready md ops listed = []) (h : Q .normal a w) :
    ∀ fuel, wpAnyHInX F n P md ops Q S fuel listed a w
  | 0 => ⟨hr, h⟩
  | _ + 1 => ⟨fun _ => h, by rw [hr]; simp⟩
/-- What is owed, operation by operation. -/
def SeqInX (F : Fence) (n : Nat) (P : Program) (ops : Array Oper) (Q : Exit → Act → World → Prop) (S : World → Prop) : List (Nat × Bool) → Act → World → Prop
  | [], a, w => Q .normal a w
  | (i, true) :: ks, a, w => ∃ o v, ops[i]? = some o ∧ YieldsIf P ops S o v a ∧ SeqInX F n P ops Q S ks (a.put o.dst v) w
  | (i, false) :: ks, a, w => wpOpIn F n P ops Q i (fun a' w' => S w' ∧ SeqInX F n P ops Q S ks a' w') a w
theorem seqIn_anyX (hro : ∀ (i : Nat) (o : Oper) (ρ : Operand → Value), ops[i]? = some o → o.semAt F.round ρ = execOp ρ o) (hF : ∀ f, F.fn f) (hs : Region.noSelect ops = true) (hQ : ∀ c (a : Act) t w, Q (.panic c) { a with tmps := t } w → Q (.panic c) a w) :
    ∀ (ks : List (Nat × Bool)) (listed : Array Bool) (a : Act) (w : World), seqOk ops ks listed = true → S w → SeqInX F n P ops Q S ks a w → ∀ fuel, ks.length ≤ fuel → wpAnyHInX F n P .any ops Q S fuel listed a w
  | [], listed, a, w, hk, _, h, fuel, _ => wpAnyHInX_doneX (by simpa [seqOk] using hk) h fuel
  | (i, true) :: ks, listed, a, w, hk, hS, ⟨o, v, ho, hy, h⟩, fuel, hf => by
    obtain ⟨m, rfl⟩ : ∃ m, fuel = m + 1 := ⟨fuel - 1, by simp at hf; omega⟩
    simp only [seqOk, Bool.and_eq_true] at hk
    exact wpAnyHInX_firstX hro hF ho (Region.noSelect_spec hs) (fun c a w h' => by
      cases hd : o.dst with
      | none => simpa [hd, Act.put] using h'
      | some d => rw [hd] at h'; exact hQ c a _ w h') m listed a w (Region.free_spec ho hk.1.1) (by simpa using hk.1.2) hy hS (seqIn_anyX hro hF hs hQ ks _ _ _ hk.2 hS h m (by simpa using hf))
  | (i, false) :: ks, listed, a, w, hk, hS, h, fuel, hf => by
    obtain ⟨m, rfl⟩ : ∃ m, fuel = m + 1 := ⟨fuel - 1, by simp at hf; omega⟩
    simp only [seqOk, Bool.and_eq_true, beq_iff_eq] at hk
    refine ⟨(fun h0 => by rw [hk.1] at h0; cases h0), fun j hj => ?_⟩
    obtain rfl : j = i := by rw [hk.1] at hj; simpa using hj
    exact wpOpIn_mono (fun a' w' h' => ⟨h'.1, seqIn_anyX hro hF hs hQ ks _ a' w' hk.2 h'.1 h'.2 m (by simpa using hf)⟩) h
/-- **THE BEGINNING**, inside the fence. -/
theorem regionIn_seqX (S : World → Prop) (ks : List (Nat × Bool)) {id : Nat} {a : Act} {w : World} (hro : ∀ (i : Nat) (o : Oper) (ρ : Operand → Value), ops[i]? = some o → o.semAt F.round ρ = execOp ρ o) (hF : ∀ f, F.fn f) (hm : P.follows .mixedOrders = true) (hs : Region.noSelect ops = true)
    (hk : seqOk ops ks (Array.replicate ops.size false) = true) (hl : (ks.length ≤ ops.size) = True)
    (hQ : ∀ c (a : Act) t w, Q (.panic c) { a with tmps := t } w → Q (.panic c) a w) (hS : S w.drew) (h : SeqInX F n P ops Q S ks a w.drew) : (Code.region id ops true).wpIn F n P Q a w :=
  wpIn_region_any hm (wpAnyIn_of_heldX _ _ _ _ (seqIn_anyX hro hF hs hQ ks _ a _ hk hS h _ (by rw [hl]; trivial)))
def Closed (ops : Array Oper) (listed : Array Bool) : Prop := ∀ j oj, ops[j]? = some oj → listed.getD j true = true → ∀ e ∈ oj.after, Region.binds .any e = true → listed.getD e.on false = true
def nthN : List Nat → Nat → Nat
  | [], _ => 0
  | r :: _, 0 => r
  | _ :: l, n + 1 => nthN l n
/-- For each operation, as the bits of a number, those for which it waits, by one step or several. -/
def maskOf (acc : List Nat) : List Edge → Nat → Nat
  | [], r => r
  | e :: l, r => maskOf acc l (cond (Region.binds .any e) (Nat.lor r (Nat.lor (Nat.pow 2 e.on) (nthN acc e.on))) r)
def reachL : List Oper → List Nat → List Nat
  | [], acc => acc
  | o :: os, acc => match maskOf acc o.after.toList 0 with
    | 0 => reachL os (acc ++ [0])
    | m + 1 => reachL os (acc ++ [m + 1])
/-- The operation m waits for the operation i, by one step or several. -/
def waits (ops : Array Oper) (i : Nat) (_k : Nat) (m : Nat) : Bool := Nat.beq (Nat.mod (Nat.shiftRight (nthN (reachL ops.toList []) m) i) 2) 1
def WN (ops : Array Oper) (i m : Nat) : Prop := ∀ listed, Closed ops listed → listed.getD i false = false → listed.getD m false = false ∧ m ∉ Region.ready .any ops listed
theorem bit_iff (r i : Nat) : Nat.beq (Nat.mod (Nat.shiftRight r i) 2) 1 = r.testBit i := by
  rw [Nat.testBit_eq_decide_div_mod_eq]
  show Nat.beq ((r >>> i) % 2) 1 = _
  rw [Nat.shiftRight_eq_div_pow]
  cases h : Nat.beq (r / 2 ^ i % 2) 1 with
  | true => exact (decide_eq_true (Nat.eq_of_beq_eq_true h)).symm
  | false => exact (decide_eq_false (fun e => by rw [e] at h; cases h)).symm
theorem maskOf_ok {m : Nat} {o : Oper} (ho : ops[m]? = some o) {acc : List Nat} (hacc : ∀ k i, (nthN acc k).testBit i = true → WN ops i k) : ∀ (l : List Edge) (r : Nat), (∀ e ∈ l, e ∈ o.after) → (∀ i, r.testBit i = true → WN ops i m) → ∀ i, (maskOf acc l r).testBit i = true → WN ops i m
  | [], r, _, hr, i, h => hr i h
  | e :: l, r, hl, hr, i, h => by
    unfold maskOf at h
    refine maskOf_ok ho hacc l _ (fun e he => hl e (by simp [he])) (fun i hi => ?_) i h
    cases hb : Region.binds .any e with
    | false => rw [hb] at hi; exact hr i hi
    | true =>
      rw [hb, cond_true] at hi
      have hi : (r ||| (2 ^ e.on ||| nthN acc e.on)).testBit i = true := hi
      rw [Nat.testBit_or, Nat.testBit_or, Bool.or_eq_true, Bool.or_eq_true] at hi
      have go : ∀ listed, Closed ops listed → listed.getD e.on false = false → listed.getD m false = false ∧ m ∉ Region.ready .any ops listed := fun listed hc hno => by
        refine ⟨?_, fun hr => ?_⟩
        · rcases hm : listed.getD m false with _ | _
          · rfl
          · have hlt : m < listed.size := by
              rcases Nat.lt_or_ge m listed.size with h' | h'
              · exact h'
              · simp [Array.getD, Nat.not_lt.2 h'] at hm
            have hm' : listed.getD m true = true := by simpa [Array.getD, hlt] using hm
            rw [hc m o ho hm' e (hl e (by simp)) hb] at hno; cases hno
        · obtain ⟨_, o', ho', hall⟩ := mem_ready.1 hr
          rw [ho] at ho'; cases ho'
          have := hall e (hl e (by simp)) hb
          rw [this] at hno; cases hno
      rcases hi with h1 | h1 | h1
      · exact hr i h1
      · rw [Nat.testBit_two_pow] at h1
        obtain rfl := of_decide_eq_true h1
        exact fun listed hc hi => go listed hc hi
      · exact fun listed hc hi => go listed hc (hacc e.on i h1 listed hc hi).1
theorem nthN_append : ∀ (acc : List Nat) (r k : Nat), nthN (acc ++ [r]) k = if k < acc.length then nthN acc k else if k = acc.length then r else 0
  | [], r, 0 => rfl
  | [], r, k + 1 => by simp [nthN]
  | a :: acc, r, 0 => by simp [nthN]
  | a :: acc, r, k + 1 => by
    simp only [List.cons_append, nthN, List.length_cons, nthN_append acc r k, Nat.add_lt_add_iff_right, Nat.add_right_cancel_iff]
theorem nthN_out : ∀ (acc : List Nat) (k : Nat), acc.length ≤ k → nthN acc k = 0
  | [], _, _ => rfl
  | _ :: acc, 0, h => by simp at h
  | _ :: acc, k + 1, h => nthN_out acc k (by simpa using h)
theorem reachL_ok : ∀ (os : List Oper) (acc : List Nat), os = ops.toList.drop acc.length → (∀ k i, (nthN acc k).testBit i = true → WN ops i k) → ∀ k i, (nthN (reachL os acc) k).testBit i = true → WN ops i k
  | [], acc, _, h => h
  | o :: os, acc, hd, h => by
    have ho : ops[acc.length]? = some o := by
      have := congrArg (fun l => l[0]?) hd
      simpa using this.symm
    have hos : os = ops.toList.drop (acc.length + 1) := by
      have := congrArg List.tail hd
      simpa using this
    have hm := maskOf_ok ho h o.after.toList 0 (fun e he => by simpa using he) (fun i hi => by simp at hi)
    have key : reachL (o :: os) acc = reachL os (acc ++ [maskOf acc o.after.toList 0]) := by
      rw [reachL]
      split <;> rename_i hq <;> rw [hq]
    rw [key]
    refine reachL_ok os _ (by simpa using hos) fun k i hk => ?_
    rw [nthN_append] at hk
    split at hk
    · exact h k i hk
    · split at hk
      · rename_i hkl; subst hkl; exact hm i hk
      · simp at hk
theorem waits_not {listed : Array Bool} (hc : Closed ops listed) {i : Nat} (hi : listed.getD i false = false) (k m : Nat) (h : waits ops i k m = true) : listed.getD m false = false ∧ m ∉ Region.ready .any ops listed := by
  unfold waits at h
  rw [bit_iff] at h
  exact reachL_ok ops.toList [] (by simp) (fun k i hk => by simp [nthN] at hk) m i h listed hc hi
theorem closed_set {listed : Array Bool} (hc : Closed ops listed) {j : Nat} (hj : j ∈ Region.ready .any ops listed) : Closed ops (listed.setIfInBounds j true) := by
  intro k ok hk hl e he hb
  obtain ⟨_, oj, hoj, hall⟩ := mem_ready.1 hj
  have keep : ∀ x, listed.getD x false = true → (listed.setIfInBounds j true).getD x false = true := fun x hx => by
    by_cases hxj : j = x
    · subst hxj
      have hlt : j < listed.size := by
        rcases Nat.lt_or_ge j listed.size with h' | h'
        · exact h'
        · simp [Array.getD, Nat.not_lt.2 h'] at hx
      simp [Array.getD, hlt]
    · rw [getD_set_ne false hxj]; exact hx
  by_cases hjk : j = k
  · subst hjk
    rw [hoj] at hk; cases hk
    exact keep _ (hall e he hb)
  · rw [getD_set_ne true hjk] at hl
    exact keep _ (hc k ok hk hl e he hb)
end
end Go.Proofs.Ytpaabfecoghibaa
