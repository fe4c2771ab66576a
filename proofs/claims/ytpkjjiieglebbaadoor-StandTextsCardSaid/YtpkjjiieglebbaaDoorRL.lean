/- Contracts of the reference's Digits, Split, Read and loose. Conditions: numbers that are not negative and not large; texts of at most 65536 bytes. -/
import Derived.Test.YtpkjjiieglebbaaDoorQT
import Derived.Test.YtpkjjiieglebbaaDoorWK
namespace Go.Proofs.YtpkjjiieglebbaaDoor
open Go Go.RowKit
theorem conv_one (W : World) (v : Int) : (convert 118 9 (.slice (some ⟨W.heap.size, 0, none⟩) 1 1)).run Tryd.prog (W.alloc (.cells #[.int .u8 v] 5)) = .ok (.string ⟨#[UInt8.ofNat v.toNat]⟩) (W.alloc (.cells #[.int .u8 v] 5)) := by
  have h := run_convert_bytes_arg (P := Tryd.prog) (W.alloc (.cells #[.int .u8 v] 5)) 118 5 Tryd.underlying118 Tryd.underlying5 W.heap.size 0 1 1 [v] rfl (fun i hi => by
    obtain rfl : i = 0 := by omega
    exact (Box.new W #[.int .u8 v] 5).cell 0) 9 Tryd.underlying9
  exact h
theorem below_one (w : World) (o : Obj) : Below w.heap.size w (w.alloc o) := (Below.refl _ _).alloc (Nat.le_refl _) o
theorem dec_small {n : Nat} (h : n < 10) : Lib.decDigits n = [UInt8.ofNat (48 + n)] := by rw [Lib.decDigits, dif_pos h]
theorem dec_big {n : Nat} (h : ¬ n < 10) : Lib.decDigits n = Lib.decDigits (n / 10) ++ Lib.decDigits (n % 10) := by
  rw [Lib.decDigits, dif_neg h, dec_small (show n % 10 < 10 by omega)]
theorem dec_len7 {n : Nat} (h : n ≤ 1000000) : (Lib.decDigits n).length ≤ 7 := dec_len n 7 (by omega) (by simp; omega)
set_option maxRecDepth 100000 in
set_option maxHeartbeats 1000000 in
theorem refDigits_any : ∀ (f n : Nat) (w : World), n < 10 ^ f → n ≤ 1000000 →
    Calls Tryd.prog 101 #[.int .i64 (n : Int)] w fun e w' => e = .returned (.string ⟨(Lib.decDigits n).toArray⟩) ∧ Below w.heap.size w w'
  | 0, n, w, h0, hn => by
    obtain rfl : n = 0 := by simpa using h0
    have HD := Lib.hid (dec_small (n := 0) (by omega))
    have kc := conv_one
    go_enter Tryd.func101, Tryd.ntmps101
    go_wp2_with fail
    go_ret
    exact ⟨by rw [HD.out]; rfl, below_one _ _⟩
  | f + 1, n, w, h0, hn => by
    by_cases h10 : n < 10
    · have HD := Lib.hid (dec_small h10)
      have kc := conv_one
      have h10' : (n : Int) < 10 := by omega
      clear h0
      go_enter Tryd.func101, Tryd.ntmps101
      go_wp2_with fail
      go_ret
      refine ⟨by rw [HD.out]; first | rfl | (congr 4; omega), below_one _ _⟩
    · have HD := Lib.hid (dec_big h10)
      have h1 : n / 10 < 10 ^ f := by rw [Nat.pow_succ] at h0; omega
      have i1 := fun W => refDigits_any f (n / 10) W h1 (by omega)
      have i2 := fun W => refDigits_any f (n % 10) W (by
        have : n % 10 ≤ n / 10 ∨ n % 10 < 10 := by omega
        match f with
        | 0 => simp at h1; omega
        | f + 1 => rw [Nat.pow_succ]; have : 0 < 10 ^ f := Nat.pow_pos (by omega); omega) (by omega)
      have l1 := dec_len7 (n := n / 10) (by omega)
      have l2 := dec_len7 (n := n % 10) (by omega)
      have I1 := Lib.hid i1
      have I2 := Lib.hid i2
      clear i1 i2 h1 h0
      go_enter Tryd.func101, Tryd.ntmps101
      have hn0 : 0 ≤ (n : Int) := by omega
      have hn1 : (n : Int) ≤ 1000000 := by omega
      go_wp2_with fail
      rw [show ((n : Int) / 10) = ((n / 10 : Nat) : Int) by omega]
      refine (I1.out _).mono ?_
      rintro e w1 ⟨rfl, hb1⟩
      obtain ⟨d1, hd1⟩ : ∃ d : ByteArray, d = ⟨(Lib.decDigits (n / 10)).toArray⟩ := ⟨_, rfl⟩
      have z1 : d1.size ≤ 7 := by rw [hd1]; simpa [ByteArray.size] using l1
      have H1 : Hid (d1.data.toList = Lib.decDigits (n / 10)) := Lib.hid (by rw [hd1])
      rw [← hd1]
      clear hd1 l1
      go_wp2_with fail
      rw [show ((n : Int) % 10) = ((n % 10 : Nat) : Int) by omega]
      refine (I2.out _).mono ?_
      rintro e w2 ⟨rfl, hb2⟩
      obtain ⟨d2, hd2⟩ : ∃ d : ByteArray, d = ⟨(Lib.decDigits (n % 10)).toArray⟩ := ⟨_, rfl⟩
      have z2 : d2.size ≤ 7 := by rw [hd2]; simpa [ByteArray.size] using l2
      have H2 : Hid (d2.data.toList = Lib.decDigits (n % 10)) := Lib.hid (by rw [hd2])
      rw [← hd2]
      clear hd2 l2
      go_wp2_with fail
      go_ret
      refine ⟨?_, hb1.trans (hb2.mono hb1.size)⟩
      have e : d1 ++ d2 = ⟨(Lib.decDigits n).toArray⟩ := by
        apply ByteArray.ext; apply Array.ext'
        rw [ByteArray.data_append, Array.toList_append, H1.out, H2.out, HD.out]
      rw [← e]
      rfl
theorem ext_str (s : ByteArray) (i j : Nat) : s.extract i j = ⟨((s.data.toList.drop i).take (j - i)).toArray⟩ := by
  apply ByteArray.ext
  apply Array.toList_inj.1
  rw [Lib.extract_data]
theorem drop_get {s : ByteArray} {i : Nat} (h : i < s.size) : s.data.toList.drop i = s[i] :: s.data.toList.drop (i + 1) := by
  rw [List.drop_eq_getElem_cons (by rw [size_len]; exact h)]
  rfl
theorem drop_front {l : List UInt8} {f i : Nat} (h : f ≤ i) : l.drop f = (l.drop f).take (i - f) ++ l.drop i := by
  conv => lhs; rw [← List.take_append_drop (i - f) (l.drop f)]
  rw [List.drop_drop, show f + (i - f) = i by omega]
theorem split_here {s : ByteArray} {sep : UInt8} {f i : Nat} (hf : f ≤ i) (h : i < s.size) (hn : ∀ c ∈ (s.data.toList.drop f).take (i - f), c ≠ sep) (he : s[i] = sep) : splitL sep (s.data.toList.drop f) = (s.data.toList.drop f).take (i - f) :: splitL sep (s.data.toList.drop (i + 1)) := by
  conv => lhs; rw [drop_front (l := s.data.toList) hf, drop_get h, he]
  exact splitL_hit _ _ hn
theorem split_none {s : ByteArray} {sep : UInt8} {f i : Nat} (hf : f ≤ i) (h : i < s.size) (hn : ∀ c ∈ (s.data.toList.drop f).take (i - f), c ≠ sep) (he : s[i] ≠ sep) : ∀ c ∈ (s.data.toList.drop f).take (i + 1 - f), c ≠ sep := by
  intro c hc
  rw [show i + 1 - f = (i - f) + 1 by omega, List.take_add_one, List.mem_append] at hc
  rcases hc with hc | hc
  · exact hn c hc
  · rw [List.getElem?_drop, show f + (i - f) = i by omega, List.getElem?_eq_getElem (by rw [size_len]; exact h)] at hc
    simp only [Option.toList_some, List.mem_singleton] at hc
    rw [hc]; exact he
theorem split_last {s : ByteArray} {sep : UInt8} {f : Nat} (_hf : f ≤ s.size) (hn : ∀ c ∈ (s.data.toList.drop f).take (s.size - f), c ≠ sep) : splitL sep (s.data.toList.drop f) = [s.data.toList.drop f] := by
  refine splitL_end _ fun c hc => hn c ?_
  rwa [List.take_of_length_le (by rw [List.length_drop, size_len]; omega)]
def strs (D : List (List UInt8)) : List Value := D.map fun l => Value.string ⟨l.toArray⟩
theorem strs_snoc (D : List (List UInt8)) (l : List UInt8) : strs (D ++ [l]) = strs D ++ [.string ⟨l.toArray⟩] := by simp [strs]
set_option maxRecDepth 100000 in
set_option maxHeartbeats 2000000 in
theorem refSplit_any (s : ByteArray) (sep : UInt8) (q : Int) (hq : (sep.toNat : Int) = q) (w : World) (hs : s.size ≤ 65536) :
    Calls Tryd.prog 88 #[.string s, .int .u8 q] w fun e w' => ∃ a c, e = .returned (.slice a (splitL sep s.data.toList).length c) ∧
      w'.ownsRow w.heap.size 9 1 (.slice a (splitL sep s.data.toList).length c) (splitL sep s.data.toList).length (strs (splitL sep s.data.toList)) ∧ Below w.heap.size w w' := by
  obtain ⟨i0, hi0, hz0, hz1, hz2⟩ := info_parts infoStr
  have hne := splitL_len sep s.data.toList
  rw [size_len] at hne
  have HQ := Lib.hid hq
  clear hq
  go_enter Tryd.func88, Tryd.ntmps88
  go_wp2_with fail
  go_loopg [5, 6, 7] s.size (fun g ov fv iv wr => ∃ (i f : Nat) (D : List (List UInt8)) (va : Option Addr) (vc : Nat), i + g = s.size ∧ f ≤ i ∧ D.length ≤ i ∧ iv = .int .i64 i ∧ fv = .int .i64 f ∧ ov = .slice va D.length vc ∧ Hid (splitL sep s.data.toList = D ++ splitL sep (s.data.toList.drop f)) ∧ Hid (∀ c ∈ (s.data.toList.drop f).take (i - f), c ≠ sep) ∧ Hid (wr.ownsRow w.heap.size 9 1 (.slice va D.length vc) D.length (strs D)) ∧ Below w.heap.size w wr)
  case atStart => exact ⟨0, 0, [], none, 0, by omega, by omega, by simp, rfl, rfl, rfl, Lib.hid rfl, Lib.hid (fun c hc => by simp at hc), Lib.hid (World.ownsRow_nil _ _ _ _), Below.refl _ _⟩
  case round =>
    obtain ⟨i, f, D, va, vc, hig, hfi, hDi, rfl, rfl, rfl, HS, HN, HR, hB⟩ := hrel
    have hsz := hB.size
    cases gk with
    | zero =>
      obtain rfl : i = s.size := by omega
      have HE : Hid (splitL sep s.data.toList = D ++ [s.data.toList.drop f]) := Lib.hid (by rw [HS.out, split_last hfi HN.out])
      have HX : Hid (s.extract f s.size = ⟨(s.data.toList.drop f).toArray⟩) := Lib.hid (by rw [ext_str, List.take_of_length_le (by rw [List.length_drop, size_len]; omega)])
      clear HS HN hne
      go_wp2_with (at_builtin; refine wpList_append_own _ rfl _ _ 51 rfl w.heap.size 9 i0 (.string ⟨#[]⟩) 1 16 Tryd.underlying51 hi0 hz0 hz1 hz2 rfl (by decide) _ _ _ rfl (HR.out.alloc _) ⟨wr.heap.size, 0, none⟩ 1 1 [.string (s.extract f s.size)] rfl rfl (cell_one_new _ _ _) (by simp [Value.oneCell']) (by unfold maxLen; omega) (by omega) (by simp; omega) ?_; intro v2 w2 hown2 hgrow2 _; obtain ⟨va2, vc2, rfl⟩ := row_form hown2)
      go_ret
      rw [HE.out, strs_snoc, List.length_append, List.length_singleton, ← HX.out]
      exact ⟨va2, vc2, rfl, hown2, (hB.alloc (by omega) _).grown hgrow2 (by simp; omega) (fun j ej => by have := row_ge HR.out j ej; omega)⟩
    | succ g =>
      have hlt : i < s.size := by omega
      by_cases he : s[i] = sep
      · have HE : Hid (splitL sep s.data.toList = (D ++ [(s.data.toList.drop f).take (i - f)]) ++ splitL sep (s.data.toList.drop (i + 1))) := Lib.hid (by rw [HS.out, split_here hfi hlt HN.out he, List.append_assoc]; rfl)
        have HX : Hid (s.extract f i = ⟨((s.data.toList.drop f).take (i - f)).toArray⟩) := Lib.hid (ext_str s f i)
        have hb : ((s[i].toNat : Int) == q) = true := by rw [he, HQ.out]; simp
        clear HS HN hne he
        go_wp2_with (at_builtin; refine wpList_append_own _ rfl _ _ 51 rfl w.heap.size 9 i0 (.string ⟨#[]⟩) 1 16 Tryd.underlying51 hi0 hz0 hz1 hz2 rfl (by decide) _ _ _ rfl (HR.out.alloc _) ⟨wr.heap.size, 0, none⟩ 1 1 [.string (s.extract f i)] rfl rfl (cell_one_new _ _ _) (by simp [Value.oneCell']) (by unfold maxLen; omega) (by omega) (by simp; omega) ?_; intro v2 w2 hown2 hgrow2 _; obtain ⟨va2, vc2, rfl⟩ := row_form hown2)
        go_roundg g
        case rel => exact ⟨i + 1, i + 1, D ++ [(s.data.toList.drop f).take (i - f)], va2, vc2, by omega, by omega, by simp; omega, by go_num, by go_num, by rw [List.length_append, List.length_singleton], HE, Lib.hid (fun c hc => by simp at hc), Lib.hid (by rw [strs_snoc, List.length_append, List.length_singleton, ← HX.out]; exact hown2), (hB.alloc (by omega) _).grown hgrow2 (by simp; omega) (fun j ej => by have := row_ge HR.out j ej; omega)⟩
        case measure => omega
      · have HN2 : Hid (∀ c ∈ (s.data.toList.drop f).take (i + 1 - f), c ≠ sep) := Lib.hid (split_none hfi hlt HN.out he)
        have hb : ((s[i].toNat : Int) == q) = false := by
          rw [← HQ.out]
          simp only [beq_eq_false_iff_ne]
          intro h
          exact he (UInt8.toNat_inj.1 (by omega))
        clear HN hne he
        go_wp2_with fail
        go_roundg g
        case rel => exact ⟨i + 1, f, D, va, vc, by omega, by omega, by omega, by go_num, rfl, rfl, HS, HN2, HR, hB⟩
        case measure => omega
theorem readV_bad {l : List UInt8} (h : readB l = false) : readV l = 0 := by unfold readV; rw [if_neg (by rw [h]; simp)]
theorem readV_ok {l : List UInt8} (h : readB l = true) : readV l = valD l := by unfold readV; rw [if_pos h]
theorem valD_take {s : ByteArray} {k : Nat} (h : k < s.size) : valD (s.data.toList.take (k + 1)) = 10 * valD (s.data.toList.take k) + ((s[k].toNat : Int) - 48) := by
  rw [List.take_add_one, List.getElem?_eq_getElem (by rw [size_len]; exact h)]
  exact valD_snoc _ _
def ReadQ (s : ByteArray) (w : World) (e : Ending) (w' : World) : Prop := ∃ ok, e = .returned (.tuple #[.int .i64 (readV s.data.toList), .bool ok]) ∧ w = w'
set_option maxHeartbeats 2000000 in
theorem refRead_any (s : ByteArray) (w : World) (hs : s.size ≤ 65536) :
    Calls Tryd.prog 106 #[.string s, .int .i64 6] w (ReadQ s w) := by
  have hsl := size_len s
  rcases h1 : frB (s.size : Int) 1 6 with _ | _
  · have HF : Hid (readV s.data.toList = 0) := Lib.hid (readV_bad (by
      unfold readB
      rw [hsl]
      have : ¬ (1 ≤ (s.size : Int) ∧ (s.size : Int) ≤ 6) := fun h => by rw [frB_iff.2 h] at h1; cases h1
      by_cases h2 : 1 ≤ s.size
      · rw [decide_eq_true h2, decide_eq_false (show ¬ s.size ≤ 6 by omega)]; rfl
      · rw [decide_eq_false h2]; rfl))
    clear hsl
    go_enter Tryd.func106, Tryd.ntmps106
    go_wp2_with (go_at_call 45; refine (refIn_any _ _ _ _).mono ?_; rintro e w' ⟨rfl, rfl⟩)
    go_ret2
    exact ⟨false, by rw [HF.out]; rfl, rfl⟩
  have h2 := frB_iff.1 h1
  have h3 : 0 < s.size := by omega
  have h6 : s.size ≤ 6 := by omega
  clear h2
  have e0 : s.data.toList.headD 0 = s[0] := by
    rcases s with ⟨⟨_ | ⟨c, l⟩⟩⟩
    · simp [ByteArray.size] at h3
    · rfl
  by_cases hz : 1 < s.size ∧ s[0] = 48
  · have HF : Hid (readV s.data.toList = 0) := Lib.hid (readV_bad (by
      unfold readB
      rw [hsl, e0, hz.2, decide_eq_true hz.1]
      simp))
    have hd1 : (1 : Int) < (s.size : Int) := by omega
    have hd2 : ((s[0].toNat : Int) == 48) = true := by rw [hz.2]; rfl
    clear hsl e0 hz
    go_enter Tryd.func106, Tryd.ntmps106
    go_wp2_with (go_at_call 45; refine (refIn_any _ _ _ _).mono ?_; rintro e w' ⟨rfl, rfl⟩)
    go_ret2
    exact ⟨false, by rw [HF.out]; rfl, rfl⟩
  have HW : Hid (readB s.data.toList = s.data.toList.all digB) := Lib.hid (by
    unfold readB
    rw [hsl, e0, decide_eq_true (show 1 ≤ s.size by omega), decide_eq_true h6]
    have : (decide (1 < s.size) && (s[0] == 48)) = false := by
      by_cases h : 1 < s.size
      · rw [decide_eq_true h]
        simp only [Bool.true_and, beq_eq_false_iff_ne]
        exact fun e => hz ⟨h, e⟩
      · rw [decide_eq_false h]; rfl
    rw [this]; rfl)
  have hzz : s.size = 1 ∨ (1 < s.size ∧ s[0] ≠ 48) := by
    by_cases h : 1 < s.size
    · exact .inr ⟨h, fun e => hz ⟨h, e⟩⟩
    · left; omega
  clear hsl e0 hz
  have HALL := Lib.hid h6
  rcases hzz with h1s | ⟨h1s, hs0⟩
  · have hd1 : ¬ ((1 : Int) < (s.size : Int)) := by omega
    clear h1s
    go_enter Tryd.func106, Tryd.ntmps106
    go_wp2_with (go_at_call 45; refine (refIn_any _ _ _ _).mono ?_; rintro e w' ⟨rfl, rfl⟩)
    go_loop [6, 7] (fun n t => ∃ k : Nat, k ≤ s.size ∧ t = .int .i64 k ∧ n = .int .i64 (valD (s.data.toList.take k)) ∧ Hid ((s.data.toList.take k).all digB = true)) (fun _ t => s.size - (intOf t).toNat)
    case atStart => exact ⟨0, Nat.zero_le _, rfl, rfl, Lib.hid rfl⟩
    case round =>
      obtain ⟨k, hk, rfl, rfl, HK⟩ := hrel
      clear hd1
      by_cases hlt : k < s.size
      · have hv := valD_six HK.out (by rw [List.length_take]; have := HALL.out; omega)
        by_cases hdg : digB s[k] = true
        · have hr := digB_range hdg
          have c1 : 48 ≤ (s[k].toNat : Int) := by omega
          have c2 : (s[k].toNat : Int) ≤ 57 := by omega
          have HV := Lib.hid (valD_take hlt)
          have HK1 : Hid ((s.data.toList.take (k + 1)).all digB = true) := Lib.hid (by rw [dig_snoc s k hlt, HK.out, hdg]; rfl)
          clear hr hdg
          go_wp2_with fail
          go_round
          case rel => exact ⟨k + 1, by omega, by go_num, by rw [HV.out], HK1⟩
          case measure => simp [intOf]; omega
        · have HF : Hid (readV s.data.toList = 0) := Lib.hid (readV_bad (by
            rw [HW.out]
            rcases h : s.data.toList.all digB with _ | _
            · rfl
            · exact absurd (List.all_eq_true.1 h s[k] (List.getElem_mem (l := s.data.toList) (n := k) (by rw [size_len]; exact hlt))) hdg))
          have hr : (s[k].toNat : Int) < 48 ∨ (48 ≤ (s[k].toNat : Int) ∧ 57 < (s[k].toNat : Int)) := by
            simp only [digB, Bool.and_eq_true, decide_eq_true_eq] at hdg
            omega
          clear hdg
          rcases hr with hr | ⟨hr, hr2⟩
          · go_wp2_with fail
            go_ret2
            exact ⟨false, by rw [HF.out]; rfl, rfl⟩
          · go_wp2_with fail
            go_ret2
            exact ⟨false, by rw [HF.out]; rfl, rfl⟩
      · have HF : Hid (readV s.data.toList = valD (s.data.toList.take k)) := Lib.hid (by
          have e : s.data.toList.take k = s.data.toList := List.take_of_length_le (by rw [size_len]; omega)
          have := HK.out
          rw [e] at this ⊢
          exact readV_ok (by rw [HW.out, this]))
        go_wp2_with fail
        go_ret2
        exact ⟨true, by rw [HF.out]; rfl, rfl⟩
  · have hd1 : (1 : Int) < (s.size : Int) := by omega
    have hd2 : ((s[0].toNat : Int) == 48) = false := by
      simp only [beq_eq_false_iff_ne]
      intro h
      exact hs0 (UInt8.toNat_inj.1 (by show s[0].toNat = 48; omega))
    clear h1s hs0
    go_enter Tryd.func106, Tryd.ntmps106
    go_wp2_with (go_at_call 45; refine (refIn_any _ _ _ _).mono ?_; rintro e w' ⟨rfl, rfl⟩)
    go_loop [6, 7] (fun n t => ∃ k : Nat, k ≤ s.size ∧ t = .int .i64 k ∧ n = .int .i64 (valD (s.data.toList.take k)) ∧ Hid ((s.data.toList.take k).all digB = true)) (fun _ t => s.size - (intOf t).toNat)
    case atStart => exact ⟨0, Nat.zero_le _, rfl, rfl, Lib.hid rfl⟩
    case round =>
      obtain ⟨k, hk, rfl, rfl, HK⟩ := hrel
      clear hd1
      by_cases hlt : k < s.size
      · have hv := valD_six HK.out (by rw [List.length_take]; have := HALL.out; omega)
        by_cases hdg : digB s[k] = true
        · have hr := digB_range hdg
          have c1 : 48 ≤ (s[k].toNat : Int) := by omega
          have c2 : (s[k].toNat : Int) ≤ 57 := by omega
          have HV := Lib.hid (valD_take hlt)
          have HK1 : Hid ((s.data.toList.take (k + 1)).all digB = true) := Lib.hid (by rw [dig_snoc s k hlt, HK.out, hdg]; rfl)
          clear hr hdg
          go_wp2_with fail
          go_round
          case rel => exact ⟨k + 1, by omega, by go_num, by rw [HV.out], HK1⟩
          case measure => simp [intOf]; omega
        · have HF : Hid (readV s.data.toList = 0) := Lib.hid (readV_bad (by
            rw [HW.out]
            rcases h : s.data.toList.all digB with _ | _
            · rfl
            · exact absurd (List.all_eq_true.1 h s[k] (List.getElem_mem (l := s.data.toList) (n := k) (by rw [size_len]; exact hlt))) hdg))
          have hr : (s[k].toNat : Int) < 48 ∨ (48 ≤ (s[k].toNat : Int) ∧ 57 < (s[k].toNat : Int)) := by
            simp only [digB, Bool.and_eq_true, decide_eq_true_eq] at hdg
            omega
          clear hdg
          rcases hr with hr | ⟨hr, hr2⟩
          · go_wp2_with fail
            go_ret2
            exact ⟨false, by rw [HF.out]; rfl, rfl⟩
          · go_wp2_with fail
            go_ret2
            exact ⟨false, by rw [HF.out]; rfl, rfl⟩
      · have HF : Hid (readV s.data.toList = valD (s.data.toList.take k)) := Lib.hid (by
          have e : s.data.toList.take k = s.data.toList := List.take_of_length_le (by rw [size_len]; omega)
          have := HK.out
          rw [e] at this ⊢
          exact readV_ok (by rw [HW.out, this]))
        go_wp2_with fail
        go_ret2
        exact ⟨true, by rw [HF.out]; rfl, rfl⟩
set_option maxHeartbeats 2000000 in
theorem refLoose_any (a : Option Addr) (n c : Nat) (ts : List (List UInt8)) (i : Nat) (w : World) (hA : TextsAt w a n (ts.map fun l => ⟨l.toArray⟩)) (hn : n ≤ 100000) (_hi : i ≤ 100) (hl : ∀ l ∈ ts, l.length ≤ 65536) :
    Calls Tryd.prog 89 #[.slice a n c, .int .i64 (i : Int)] w fun e w' => e = .returned (.int .i64 (looseV ts i)) ∧ w = w' := by
  obtain ⟨hn2, hA⟩ := hA
  rw [List.length_map] at hn2
  subst hn2
  by_cases hlt : i < ts.length
  · obtain ⟨x, hx⟩ : ∃ x, ts[i]? = some x := ⟨_, List.getElem?_eq_getElem hlt⟩
    rcases hA with h | ⟨b, off, rfl, hb, hc⟩
    · rw [List.map_eq_nil_iff] at h; subst h; simp at hlt
    have c0 := hc i ⟨x.toArray⟩ (by rw [List.getElem?_map, hx]; rfl)
    have hsz : (⟨x.toArray⟩ : ByteArray).size ≤ 65536 := by
      have := hl x (List.mem_of_getElem? hx)
      show x.toArray.size ≤ 65536
      simpa using this
    have HV : Hid (looseV ts i = readV x) := Lib.hid (by unfold looseV; rw [hx])
    have hli : (i : Int) < (ts.length : Int) := by omega
    clear hc hl hx
    go_enter Tryd.func89, Tryd.ntmps89
    go_wp2_with (go_at_call 106; refine (refRead_any _ _ hsz).mono ?_; rintro e w' ⟨ok, rfl, rfl⟩)
    go_ret
    exact ⟨by rw [HV.out]; rfl, rfl⟩
  · have HV : Hid (looseV ts i = 0) := Lib.hid (by unfold looseV; rw [List.getElem?_eq_none (by omega)])
    have hli : (ts.length : Int) ≤ (i : Int) := by omega
    clear hA hl
    go_enter Tryd.func89, Tryd.ntmps89
    go_wp2_with fail
    go_ret
    exact ⟨by rw [HV.out]; rfl, rfl⟩
end Go.Proofs.YtpkjjiieglebbaaDoor
