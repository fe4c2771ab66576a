/- StandKnown: the law returns true, and the package variables that its row lists hold what the program's text lays (tied by the card). Conditions: none beyond the row's own. (Written by wip/gen_known.py.) -/
import Derived.Test.YtpkjjiieglebbaaDoorCA
import Derived.Test.YtpkjjiieglebbaaDoorKV
namespace Go.Proofs.YtpkjjiieglebbaaDoor
open Go Go.RowKit
set_option maxRecDepth 100000 in
set_option maxHeartbeats 8000000 in
theorem standKnown_any (w : World) (hC : Chg w) (hP : Tab w)
    (hWk : ∀ W, Below w.heap.size w W → Calls Tryd.prog 24 #[] W fun e w' => e = .returned (.bool true) ∧ Below W.heap.size W w') :
    Calls Tryd.prog 14 #[] w fun e w' => e = .returned (.bool true) ∧ Below w.heap.size w w' := by
  have HC := Lib.hid (fun W (h : Below w.heap.size w W) => hC.below h)
  have HP := Lib.hid (fun W (h : Below w.heap.size w W) => hP.below h)
  have HWk := Lib.hid hWk
  have HNO := Lib.hid no_words
  have HW1 : Hid (wordB (⟨#[122]⟩ : ByteArray).data.toList = true) := Lib.hid (by decide +kernel)
  have HW2 : Hid (wordB (⟨#[97, 98, 99, 100, 101, 102, 103, 104, 105, 106, 107, 108, 109, 110, 111, 112]⟩ : ByteArray).data.toList = true) := Lib.hid (by decide +kernel)
  have HW3 : Hid (wordB (⟨#[97, 45, 45, 57]⟩ : ByteArray).data.toList = true) := Lib.hid (by decide +kernel)
  clear hC hP hWk
  go_enter Tryd.func14, Tryd.ntmps14
  go_wp2_with fail
  have HN : Hid (∀ V, Below (w.alloc (.cells #[.string ⟨#[]⟩, .string ⟨#[65]⟩, .string ⟨#[49, 97]⟩, .string ⟨#[45, 97]⟩, .string ⟨#[97, 32, 98]⟩, .string ⟨#[97, 95, 98]⟩, .string ⟨#[97, 98, 99, 100, 101, 102, 103, 104, 105, 106, 107, 108, 109, 110, 111, 112, 113]⟩, .string ⟨#[195, 164]⟩] 9)).heap.size (w.alloc (.cells #[.string ⟨#[]⟩, .string ⟨#[65]⟩, .string ⟨#[49, 97]⟩, .string ⟨#[45, 97]⟩, .string ⟨#[97, 32, 98]⟩, .string ⟨#[97, 95, 98]⟩, .string ⟨#[97, 98, 99, 100, 101, 102, 103, 104, 105, 106, 107, 108, 109, 110, 111, 112, 113]⟩, .string ⟨#[195, 164]⟩] 9)) V → Below w.heap.size w V ∧ ∀ k, k < 8 → ∃ x, V.cell? ⟨w.heap.size, k, none⟩ = some (.string x) ∧ wordB x.data.toList = false ∧ x.size ≤ maxLen) := Lib.hid fun V h => by
    have b := (Box.new w #[.string ⟨#[]⟩, .string ⟨#[65]⟩, .string ⟨#[49, 97]⟩, .string ⟨#[45, 97]⟩, .string ⟨#[97, 32, 98]⟩, .string ⟨#[97, 95, 98]⟩, .string ⟨#[97, 98, 99, 100, 101, 102, 103, 104, 105, 106, 107, 108, 109, 110, 111, 112, 113]⟩, .string ⟨#[195, 164]⟩] 9).below h (by simp)
    refine ⟨((Below.refl _ _).alloc (Nat.le_refl _) _).trans (h.mono (by simp)), fun k hk => ?_⟩
    match k, hk with
    | 0, _ => exact ⟨_, b.cell 0, HNO.out _ (by simp [noL])⟩
    | 1, _ => exact ⟨_, b.cell 1, HNO.out _ (by simp [noL])⟩
    | 2, _ => exact ⟨_, b.cell 2, HNO.out _ (by simp [noL])⟩
    | 3, _ => exact ⟨_, b.cell 3, HNO.out _ (by simp [noL])⟩
    | 4, _ => exact ⟨_, b.cell 4, HNO.out _ (by simp [noL])⟩
    | 5, _ => exact ⟨_, b.cell 5, HNO.out _ (by simp [noL])⟩
    | 6, _ => exact ⟨_, b.cell 6, HNO.out _ (by simp [noL])⟩
    | 7, _ => exact ⟨_, b.cell 7, HNO.out _ (by simp [noL])⟩
    | _ + 8, hk => exact absurd hk (by omega)
  go_loopw [2] (fun iv wr => ∃ k : Nat, k ≤ 8 ∧ iv = .int .i64 k ∧ Below (w.alloc (.cells #[.string ⟨#[]⟩, .string ⟨#[65]⟩, .string ⟨#[49, 97]⟩, .string ⟨#[45, 97]⟩, .string ⟨#[97, 32, 98]⟩, .string ⟨#[97, 95, 98]⟩, .string ⟨#[97, 98, 99, 100, 101, 102, 103, 104, 105, 106, 107, 108, 109, 110, 111, 112, 113]⟩, .string ⟨#[195, 164]⟩] 9)).heap.size (w.alloc (.cells #[.string ⟨#[]⟩, .string ⟨#[65]⟩, .string ⟨#[49, 97]⟩, .string ⟨#[45, 97]⟩, .string ⟨#[97, 32, 98]⟩, .string ⟨#[97, 95, 98]⟩, .string ⟨#[97, 98, 99, 100, 101, 102, 103, 104, 105, 106, 107, 108, 109, 110, 111, 112, 113]⟩, .string ⟨#[195, 164]⟩] 9)) wr) (fun iv _ => 8 - (intOf iv).toNat)
  case atStart => exact ⟨0, by omega, rfl, Below.refl _ _⟩
  case round =>
    obtain ⟨k, hk, rfl, hBr⟩ := hrel
    obtain ⟨hw1, hall⟩ := HN.out _ hBr
    by_cases hlt : k < 8
    · obtain ⟨x, cx, hx, hxs⟩ := hall k hlt
      have hk' : (k : Int) < 8 := by omega
      have HXW := Lib.hid hx
      clear hx hall
      go_wp2_with (go_at_call 18; refine (isWord_any x _ hxs).mono ?_; rw [HXW.out]; rintro e w' ⟨rfl, rfl⟩)
      go_roundw
      case rel => exact ⟨k + 1, by omega, by go_num, hBr⟩
      case measure => simp [intOf]; omega
    obtain rfl : k = 8 := by omega
    have HB0 := Lib.hid hw1
    clear hall hBr hw1 HN
    obtain ⟨wo, rfl⟩ : ∃ wo : World, wo = wr := ⟨_, rfl⟩
    obtain ⟨iT, hiT, hzT⟩ := Option.map_eq_some_iff.1 infoTree0
    simp only [Prod.mk.injEq] at hzT
    obtain ⟨hzT, hsT, hbT⟩ := hzT
    have hmk : ∀ V, (Instr.makeSlice 25 (.int .i64 15) (.int .i64 15)).run Tryd.prog V = .ok (.slice (some ⟨V.heap.size, 0, none⟩) 15 15) (V.alloc (.cells (madeCells #[.string ⟨#[]⟩, .int .i64 0, .int .i64 0, .int .i64 0, .int .i64 0, .int .i64 0] 90) 62)) := fun V => by
      have h := run_make (P := Tryd.prog) V 25 62 iT _ (by kernel_rfl) hiT hzT .i64 .i64 15 15 (by omega) (by omega) (by rw [hbT]; omega) (by omega)
      rw [hsT] at h
      exact h
    have HMK := Lib.hid hmk
    clear hiT hzT hsT hbT hmk
    go_wp2_with fail
    refine (isWord_any ⟨#[122]⟩ _ (by decide +kernel)).mono ?_
    rw [HW1.out]
    rintro e w' ⟨rfl, rfl⟩
    go_wp2_with fail
    refine (isWord_any ⟨#[97, 98, 99, 100, 101, 102, 103, 104, 105, 106, 107, 108, 109, 110, 111, 112]⟩ _ (by decide +kernel)).mono ?_
    rw [HW2.out]
    rintro e w' ⟨rfl, rfl⟩
    go_wp2_with fail
    refine (isWord_any ⟨#[97, 45, 45, 57]⟩ _ (by decide +kernel)).mono ?_
    rw [HW3.out]
    rintro e w' ⟨rfl, rfl⟩
    go_wp2_with fail
    refine region_inv2 (badGood wo.heap.size) (by kernel_rfl) (badGood_mono _) ?_ (by kernel_rfl) (by kernel_rfl) (by rfl) ?_ ?_
    case refine_1 =>
      intro vs vs' i o w ho h1 hdep h
      match i, ho, h with
      | 0, ho, h =>
        obtain ⟨B, e, b⟩ := h
        exact ⟨B, h1.symm.trans e, b⟩
      | 1, ho, h =>
        obtain rfl := Option.some.inj ho
        have h2 := hdep ⟨0, .chain⟩ (by simp) rfl
        obtain ⟨B, D, e, e', l, b⟩ := h
        exact ⟨B, D, h1.symm.trans e, h2.symm.trans e', l, b⟩
      | 2, ho, h =>
        obtain rfl := Option.some.inj ho
        have h2 := hdep ⟨1, .chain⟩ (by simp) rfl
        obtain ⟨B, D, e, e', l, b⟩ := h
        exact ⟨B, D, h1.symm.trans e, h2.symm.trans e', l, b⟩
      | 3, ho, h =>
        obtain rfl := Option.some.inj ho
        have h2 := hdep ⟨2, .chain⟩ (by simp) rfl
        obtain ⟨B, D, e, e', l, b⟩ := h
        exact ⟨B, D, h1.symm.trans e, h2.symm.trans e', l, b⟩
      | 4, ho, h =>
        obtain rfl := Option.some.inj ho
        have h2 := hdep ⟨3, .chain⟩ (by simp) rfl
        obtain ⟨B, D, e, e', l, b⟩ := h
        exact ⟨B, D, h1.symm.trans e, h2.symm.trans e', l, b⟩
      | 5, ho, h =>
        obtain rfl := Option.some.inj ho
        have h2 := hdep ⟨4, .chain⟩ (by simp) rfl
        obtain ⟨B, D, e, e', l, b⟩ := h
        exact ⟨B, D, h1.symm.trans e, h2.symm.trans e', l, b⟩
      | 6, ho, h =>
        obtain ⟨B, e, b⟩ := h
        exact ⟨B, h1.symm.trans e, b⟩
      | 7, ho, h =>
        obtain ⟨B, e, b⟩ := h
        exact ⟨B, h1.symm.trans e, b⟩
      | 8, ho, h =>
        obtain ⟨G, B0, B1, B2, B3, B4, B5, B6, e, r⟩ := h
        exact ⟨G, B0, B1, B2, B3, B4, B5, B6, h1.symm.trans e, r⟩
      | 9, ho, h =>
        obtain ⟨G, B0, B1, B2, B3, B4, B5, B6, e, r⟩ := h
        exact ⟨G, B0, B1, B2, B3, B4, B5, B6, h1.symm.trans e, r⟩
      | _ + 10, ho, h => trivial
    case refine_2 =>
      intro i o ho
      match i, ho with
      | 0, ho =>
        obtain rfl := Option.some.inj ho
        intro a W vs hB hd hf K hK
        clear hd hf
        go_simp
        refine (trees_box _).mono ?_
        rintro e w' ⟨B, rfl, hge, hbx, hb⟩
        go_simp
        exact hK.out _ _ hb ⟨B, by simp [upd], by have := hB.size; simp at this; omega, hbx⟩
      | 1, ho =>
        obtain rfl := Option.some.inj ho
        intro a W vs hB hd hf K hK
        have g := (hd ⟨0, .chain⟩ (by simp) rfl).1
        obtain ⟨D, hv, bD⟩ : ∃ D, vs 0 = (fun B : Nat => Value.agg #[.slice (some ⟨B, 0, none⟩) 3 3, .int .i64 8, .int .i64 12, .int .i64 3, .int .i64 30]) D ∧ Box W D #[.string ⟨#[97]⟩, .int .i64 0, .int .i64 0, .int .i64 900, .int .i64 920, .int .i64 40, .string ⟨#[98]⟩, .int .i64 30, .int .i64 0, .int .i64 1000, .int .i64 1000, .int .i64 30, .string ⟨#[99]⟩, .int .i64 60, .int .i64 0, .int .i64 700, .int .i64 760, .int .i64 50] 62 := by
          obtain ⟨B, e, _, b⟩ := g; exact ⟨B, e, b⟩
        clear hd hf g
        go_simp
        refine (trees_box _).mono ?_
        rintro e w' ⟨B, rfl, hge, hbx, hb⟩
        go_simp
        exact hK.out _ _ hb ⟨B, D, by simp [upd], by simp [upd, hv], by have := bD.lt; omega, by have := hB.size; simp at this; omega, hbx⟩
      | 2, ho =>
        obtain rfl := Option.some.inj ho
        intro a W vs hB hd hf K hK
        have g := (hd ⟨1, .chain⟩ (by simp) rfl).1
        obtain ⟨D, hv, bD⟩ : ∃ D, vs 1 = (fun B : Nat => Value.agg #[.slice (some ⟨B, 0, none⟩) 3 3, .int .i64 8, .int .i64 12, .int .i64 3, .int .i64 30]) D ∧ Box W D #[.string ⟨#[97]⟩, .int .i64 0, .int .i64 0, .int .i64 900, .int .i64 920, .int .i64 40, .string ⟨#[98]⟩, .int .i64 30, .int .i64 0, .int .i64 1000, .int .i64 1000, .int .i64 30, .string ⟨#[99]⟩, .int .i64 60, .int .i64 0, .int .i64 700, .int .i64 760, .int .i64 50] 62 := by
          obtain ⟨B, D, e, _, _, _, b⟩ := g; exact ⟨B, e, b⟩
        clear hd hf g
        go_simp
        refine (trees_box _).mono ?_
        rintro e w' ⟨B, rfl, hge, hbx, hb⟩
        go_simp
        exact hK.out _ _ hb ⟨B, D, by simp [upd], by simp [upd, hv], by have := bD.lt; omega, by have := hB.size; simp at this; omega, hbx⟩
      | 3, ho =>
        obtain rfl := Option.some.inj ho
        intro a W vs hB hd hf K hK
        have g := (hd ⟨2, .chain⟩ (by simp) rfl).1
        obtain ⟨D, hv, bD⟩ : ∃ D, vs 2 = (fun B : Nat => Value.agg #[.slice (some ⟨B, 0, none⟩) 3 3, .int .i64 8, .int .i64 12, .int .i64 3, .int .i64 30]) D ∧ Box W D #[.string ⟨#[97]⟩, .int .i64 0, .int .i64 0, .int .i64 900, .int .i64 920, .int .i64 40, .string ⟨#[98]⟩, .int .i64 30, .int .i64 0, .int .i64 1000, .int .i64 1000, .int .i64 30, .string ⟨#[99]⟩, .int .i64 60, .int .i64 0, .int .i64 700, .int .i64 760, .int .i64 50] 62 := by
          obtain ⟨B, D, e, _, _, _, b⟩ := g; exact ⟨B, e, b⟩
        clear hd hf g
        go_simp
        refine (trees_box _).mono ?_
        rintro e w' ⟨B, rfl, hge, hbx, hb⟩
        go_simp
        exact hK.out _ _ hb ⟨B, D, by simp [upd], by simp [upd, hv], by have := bD.lt; omega, by have := hB.size; simp at this; omega, hbx⟩
      | 4, ho =>
        obtain rfl := Option.some.inj ho
        intro a W vs hB hd hf K hK
        have g := (hd ⟨3, .chain⟩ (by simp) rfl).1
        obtain ⟨D, hv, bD⟩ : ∃ D, vs 3 = (fun B : Nat => Value.agg #[.slice (some ⟨B, 0, none⟩) 3 3, .int .i64 8, .int .i64 12, .int .i64 3, .int .i64 30]) D ∧ Box W D #[.string ⟨#[97]⟩, .int .i64 0, .int .i64 0, .int .i64 900, .int .i64 920, .int .i64 40, .string ⟨#[98]⟩, .int .i64 30, .int .i64 0, .int .i64 1000, .int .i64 1000, .int .i64 30, .string ⟨#[99]⟩, .int .i64 60, .int .i64 0, .int .i64 700, .int .i64 760, .int .i64 50] 62 := by
          obtain ⟨B, D, e, _, _, _, b⟩ := g; exact ⟨B, e, b⟩
        clear hd hf g
        go_simp
        refine (trees_box _).mono ?_
        rintro e w' ⟨B, rfl, hge, hbx, hb⟩
        go_simp
        exact hK.out _ _ hb ⟨B, D, by simp [upd], by simp [upd, hv], by have := bD.lt; omega, by have := hB.size; simp at this; omega, hbx⟩
      | 5, ho =>
        obtain rfl := Option.some.inj ho
        intro a W vs hB hd hf K hK
        have g := (hd ⟨4, .chain⟩ (by simp) rfl).1
        obtain ⟨D, hv, bD⟩ : ∃ D, vs 4 = (fun B : Nat => Value.agg #[.slice (some ⟨B, 0, none⟩) 3 3, .int .i64 8, .int .i64 12, .int .i64 3, .int .i64 30]) D ∧ Box W D #[.string ⟨#[97]⟩, .int .i64 0, .int .i64 0, .int .i64 900, .int .i64 920, .int .i64 40, .string ⟨#[98]⟩, .int .i64 30, .int .i64 0, .int .i64 1000, .int .i64 1000, .int .i64 30, .string ⟨#[99]⟩, .int .i64 60, .int .i64 0, .int .i64 700, .int .i64 760, .int .i64 50] 62 := by
          obtain ⟨B, D, e, _, _, _, b⟩ := g; exact ⟨B, e, b⟩
        clear hd hf g
        go_simp
        refine (trees_box _).mono ?_
        rintro e w' ⟨B, rfl, hge, hbx, hb⟩
        go_simp
        exact hK.out _ _ hb ⟨B, D, by simp [upd], by simp [upd, hv], by have := bD.lt; omega, by have := hB.size; simp at this; omega, hbx⟩
      | 6, ho =>
        obtain rfl := Option.some.inj ho
        intro a W vs hB hd hf K hK
        clear hd hf
        have hmk := HMK.out
        go_simp
        exact hK.out _ _ ((Below.refl _ _).alloc (Nat.le_refl _) _) ⟨_, by simp [upd], Box.new _ _ _⟩
      | 7, ho =>
        obtain rfl := Option.some.inj ho
        intro a W vs hB hd hf K hK
        have t0 := (hd ⟨6, .data⟩ (by simp) rfl).2 _ _ rfl rfl
        obtain ⟨D0, v0, b0⟩ := (hd ⟨6, .data⟩ (by simp) rfl).1
        rw [v0] at t0
        have e0 : a.tmps.getD 67 undef = .slice (some ⟨D0, 0, none⟩) 15 15 := by rw [Array.getD_eq_getD_getElem?, t0]; rfl
        clear hd hf
        go_simp
        exact hK.out _ _ (Below.refl _ _) ⟨D0, by simp [upd], b0⟩
      | 8, ho =>
        obtain rfl := Option.some.inj ho
        intro a W vs hB hd hf K hK
        have t0 := (hd ⟨0, .data⟩ (by simp) rfl).2 _ _ rfl rfl
        obtain ⟨D0, v0, q0, b0⟩ := (hd ⟨0, .data⟩ (by simp) rfl).1
        rw [v0] at t0
        have e0 : a.tmps.getD 61 undef = (fun B : Nat => Value.agg #[.slice (some ⟨B, 0, none⟩) 3 3, .int .i64 8, .int .i64 12, .int .i64 3, .int .i64 30]) D0 := by rw [Array.getD_eq_getD_getElem?, t0]; rfl
        have t1 := (hd ⟨1, .data⟩ (by simp) rfl).2 _ _ rfl rfl
        obtain ⟨D1, E1, v1, u1, l1, _, b1⟩ := (hd ⟨1, .data⟩ (by simp) rfl).1
        obtain rfl : D0 = E1 := by have := v0.symm.trans u1; simpa using this
        rw [v1] at t1
        have e1 : a.tmps.getD 62 undef = (fun B : Nat => Value.agg #[.slice (some ⟨B, 0, none⟩) 3 3, .int .i64 8, .int .i64 12, .int .i64 3, .int .i64 30]) D1 := by rw [Array.getD_eq_getD_getElem?, t1]; rfl
        have t2 := (hd ⟨2, .data⟩ (by simp) rfl).2 _ _ rfl rfl
        obtain ⟨D2, E2, v2, u2, l2, _, b2⟩ := (hd ⟨2, .data⟩ (by simp) rfl).1
        obtain rfl : D1 = E2 := by have := v1.symm.trans u2; simpa using this
        rw [v2] at t2
        have e2 : a.tmps.getD 63 undef = (fun B : Nat => Value.agg #[.slice (some ⟨B, 0, none⟩) 3 3, .int .i64 8, .int .i64 12, .int .i64 3, .int .i64 30]) D2 := by rw [Array.getD_eq_getD_getElem?, t2]; rfl
        have t3 := (hd ⟨3, .data⟩ (by simp) rfl).2 _ _ rfl rfl
        obtain ⟨D3, E3, v3, u3, l3, _, b3⟩ := (hd ⟨3, .data⟩ (by simp) rfl).1
        obtain rfl : D2 = E3 := by have := v2.symm.trans u3; simpa using this
        rw [v3] at t3
        have e3 : a.tmps.getD 64 undef = (fun B : Nat => Value.agg #[.slice (some ⟨B, 0, none⟩) 3 3, .int .i64 8, .int .i64 12, .int .i64 3, .int .i64 30]) D3 := by rw [Array.getD_eq_getD_getElem?, t3]; rfl
        have t4 := (hd ⟨4, .data⟩ (by simp) rfl).2 _ _ rfl rfl
        obtain ⟨D4, E4, v4, u4, l4, _, b4⟩ := (hd ⟨4, .data⟩ (by simp) rfl).1
        obtain rfl : D3 = E4 := by have := v3.symm.trans u4; simpa using this
        rw [v4] at t4
        have e4 : a.tmps.getD 65 undef = (fun B : Nat => Value.agg #[.slice (some ⟨B, 0, none⟩) 3 3, .int .i64 8, .int .i64 12, .int .i64 3, .int .i64 30]) D4 := by rw [Array.getD_eq_getD_getElem?, t4]; rfl
        have t5 := (hd ⟨5, .data⟩ (by simp) rfl).2 _ _ rfl rfl
        obtain ⟨D5, E5, v5, u5, l5, _, b5⟩ := (hd ⟨5, .data⟩ (by simp) rfl).1
        obtain rfl : D4 = E5 := by have := v4.symm.trans u5; simpa using this
        rw [v5] at t5
        have e5 : a.tmps.getD 66 undef = (fun B : Nat => Value.agg #[.slice (some ⟨B, 0, none⟩) 3 3, .int .i64 8, .int .i64 12, .int .i64 3, .int .i64 30]) D5 := by rw [Array.getD_eq_getD_getElem?, t5]; rfl
        have t6 := (hd ⟨7, .data⟩ (by simp) rfl).2 _ _ rfl rfl
        obtain ⟨D6, v6, b6⟩ := (hd ⟨7, .data⟩ (by simp) rfl).1
        rw [v6] at t6
        have e6 : a.tmps.getD 68 undef = .agg #[.slice (some ⟨D6, 0, none⟩) 15 15, .int .i64 0, .int .i64 0, .int .i64 0, .int .i64 0] := by rw [Array.getD_eq_getD_getElem?, t6]; rfl
        clear hd hf
        go_simp
        exact hK.out _ _ ((Below.refl _ _).alloc (Nat.le_refl _) _) ⟨_, D0, D1, D2, D3, D4, D5, D6, by simp [upd], Box.new _ _ _, ⟨l1, l2, l3, l4, l5, q0, by have := hB.size; simpa using this⟩, b0.alloc _, b1.alloc _, b2.alloc _, b3.alloc _, b4.alloc _, b5.alloc _, b6.alloc _⟩
      | 9, ho =>
        obtain rfl := Option.some.inj ho
        intro a W vs hB hd hf K hK
        have t0 := (hd ⟨8, .data⟩ (by simp) rfl).2 _ _ rfl rfl
        obtain ⟨G, B0, B1, B2, B3, B4, B5, B6, v0, r⟩ := (hd ⟨8, .data⟩ (by simp) rfl).1
        rw [v0] at t0
        have e0 : a.tmps.getD 69 undef = .slice (some ⟨G, 0, none⟩) 7 7 := by rw [Array.getD_eq_getD_getElem?, t0]; rfl
        clear hd hf
        go_simp
        exact hK.out _ _ (Below.refl _ _) ⟨G, B0, B1, B2, B3, B4, B5, B6, by simp [upd], r⟩
      | _ + 10, ho => cases ho
    case refine_3 =>
      intro vs V hB hg
      obtain ⟨G, B0, B1, B2, B3, B4, B5, B6, hv, bG, ⟨l1, l2, l3, l4, l5, l6, l7⟩, b0, b1, b2, b3, b4, b5, b6⟩ := (show badGood wo.heap.size vs 9 V from hg 9 (by decide))
      have HB1 := Lib.hid (HB0.out.trans (((Below.refl wo.heap.size wo).drew.trans hB).mono HB0.out.size))
      simp only [putAll, Nat.zero_add, Nat.reduceAdd, _root_.Go.Act.put, List.setIfInBounds_toArray, List.set_cons_zero, List.set_cons_succ]
      rw [hv]
      have n0 : G ≠ B0 := box_ne bG b0 (by show (35 : Nat) ≠ 18; decide)
      have n1 : G ≠ B1 := box_ne bG b1 (by show (35 : Nat) ≠ 18; decide)
      have n2 : G ≠ B2 := box_ne bG b2 (by show (35 : Nat) ≠ 18; decide)
      have n3 : G ≠ B3 := box_ne bG b3 (by show (35 : Nat) ≠ 18; decide)
      have n4 : G ≠ B4 := box_ne bG b4 (by show (35 : Nat) ≠ 18; decide)
      have n5 : G ≠ B5 := box_ne bG b5 (by show (35 : Nat) ≠ 18; decide)
      have hs6 : ((madeCells #[.string ⟨#[]⟩, .int .i64 0, .int .i64 0, .int .i64 0, .int .i64 0, .int .i64 0] 90) : Array Value).size = 90 := size_madeCells _ _
      have n6 : G ≠ B6 := box_ne bG b6 (by rw [hs6]; show (35 : Nat) ≠ 90; decide)
      have m0 : B0 ≠ B6 := box_ne b0 b6 (by rw [hs6]; show (18 : Nat) ≠ 90; decide)
      have m1 : B1 ≠ B6 := box_ne b1 b6 (by rw [hs6]; show (18 : Nat) ≠ 90; decide)
      have m2 : B2 ≠ B6 := box_ne b2 b6 (by rw [hs6]; show (18 : Nat) ≠ 90; decide)
      have m3 : B3 ≠ B6 := box_ne b3 b6 (by rw [hs6]; show (18 : Nat) ≠ 90; decide)
      have m4 : B4 ≠ B6 := box_ne b4 b6 (by rw [hs6]; show (18 : Nat) ≠ 90; decide)
      have m5 : B5 ≠ B6 := box_ne b5 b6 (by rw [hs6]; show (18 : Nat) ≠ 90; decide)
      clear hg hB hv hs6
      have hw0 := HB0.out.size
      have hGw : w.heap.size ≤ G := by omega
      have hB1w : w.heap.size ≤ B1 := by omega
      have hB2w : w.heap.size ≤ B2 := by omega
      have hB3w : w.heap.size ≤ B3 := by omega
      have hB4w : w.heap.size ≤ B4 := by omega
      clear hw0
      go_wp2_with fail
      refine (to_any 9 8 _).mono ?_
      rintro e w1 ⟨rfl, hb⟩
      have HB2 := Lib.hid (HB1.out.trans (hb.mono HB1.out.size))
      have bG := bG.below hb bG.lt
      have b0 := b0.below hb b0.lt
      have b1 := b1.below hb b1.lt
      have b2 := b2.below hb b2.lt
      have b3 := b3.below hb b3.lt
      have b4 := b4.below hb b4.lt
      have b5 := b5.below hb b5.lt
      have b6 := b6.below hb b6.lt
      clear hb
      have yG1 : w1.cell? ⟨G, 1, none⟩ = some (.int .i64 8) := bG.cell 1
      have zG1 : w1.frozen? ⟨G, 1, none⟩ = false := bG.free 1
      have yG2 : w1.cell? ⟨G, 2, none⟩ = some (.int .i64 12) := bG.cell 2
      have zG2 : w1.frozen? ⟨G, 2, none⟩ = false := bG.free 2
      have hqB0 : G ≠ B0 := by omega
      have hqB1 : G ≠ B1 := by omega
      have hqB2 : G ≠ B2 := by omega
      have hqB3 : G ≠ B3 := by omega
      have hqB4 : G ≠ B4 := by omega
      have hqB5 : G ≠ B5 := by omega
      have hqB6 : G ≠ B6 := by omega
      have bG : Box ((w1.setCell ⟨G, 1, none⟩ (.int .i64 9)).setCell ⟨G, 2, none⟩ (.int .i64 8)) G #[.slice (some ⟨B0, 0, none⟩) 3 3, .int .i64 9, .int .i64 8, .int .i64 3, .int .i64 30, .slice (some ⟨B1, 0, none⟩) 3 3, .int .i64 8, .int .i64 12, .int .i64 3, .int .i64 30, .slice (some ⟨B2, 0, none⟩) 3 3, .int .i64 8, .int .i64 12, .int .i64 3, .int .i64 30, .slice (some ⟨B3, 0, none⟩) 3 3, .int .i64 8, .int .i64 12, .int .i64 3, .int .i64 30, .slice (some ⟨B4, 0, none⟩) 3 3, .int .i64 8, .int .i64 12, .int .i64 3, .int .i64 30, .slice (some ⟨B5, 0, none⟩) 3 3, .int .i64 8, .int .i64 12, .int .i64 3, .int .i64 30, .slice (some ⟨B6, 0, none⟩) 15 15, .int .i64 0, .int .i64 0, .int .i64 0, .int .i64 0] 29 := ((bG.set 1 (.int .i64 9)).set 2 (.int .i64 8))
      have b0 := ((b0.other (p := ⟨G, 1, none⟩) hqB0 (.int .i64 9)).other (p := ⟨G, 2, none⟩) hqB0 (.int .i64 8))
      have b1 := ((b1.other (p := ⟨G, 1, none⟩) hqB1 (.int .i64 9)).other (p := ⟨G, 2, none⟩) hqB1 (.int .i64 8))
      have b2 := ((b2.other (p := ⟨G, 1, none⟩) hqB2 (.int .i64 9)).other (p := ⟨G, 2, none⟩) hqB2 (.int .i64 8))
      have b3 := ((b3.other (p := ⟨G, 1, none⟩) hqB3 (.int .i64 9)).other (p := ⟨G, 2, none⟩) hqB3 (.int .i64 8))
      have b4 := ((b4.other (p := ⟨G, 1, none⟩) hqB4 (.int .i64 9)).other (p := ⟨G, 2, none⟩) hqB4 (.int .i64 8))
      have b5 := ((b5.other (p := ⟨G, 1, none⟩) hqB5 (.int .i64 9)).other (p := ⟨G, 2, none⟩) hqB5 (.int .i64 8))
      have b6 := ((b6.other (p := ⟨G, 1, none⟩) hqB6 (.int .i64 9)).other (p := ⟨G, 2, none⟩) hqB6 (.int .i64 8))
      clear hqB0 hqB1 hqB2 hqB3 hqB4 hqB5 hqB6
      have yB16 : ((w1.setCell ⟨G, 1, none⟩ (.int .i64 9)).setCell ⟨G, 2, none⟩ (.int .i64 8)).cell? ⟨B1, 6, none⟩ = some (.string ⟨#[98]⟩) := b1.cell 6
      have zB16 : ((w1.setCell ⟨G, 1, none⟩ (.int .i64 9)).setCell ⟨G, 2, none⟩ (.int .i64 8)).frozen? ⟨B1, 6, none⟩ = false := b1.free 6
      have g5 : ((w1.setCell ⟨G, 1, none⟩ (.int .i64 9)).setCell ⟨G, 2, none⟩ (.int .i64 8)).cell? ⟨G, 5, none⟩ = some (.slice (some ⟨B1, 0, none⟩) 3 3) := bG.cell 5
      have hqG : B1 ≠ G := by omega
      have hqB0 : B1 ≠ B0 := by omega
      have hqB2 : B1 ≠ B2 := by omega
      have hqB3 : B1 ≠ B3 := by omega
      have hqB4 : B1 ≠ B4 := by omega
      have hqB5 : B1 ≠ B5 := by omega
      have hqB6 : B1 ≠ B6 := by omega
      have bG := (bG.other (p := ⟨B1, 6, none⟩) hqG (.string ⟨#[97]⟩))
      have b0 := (b0.other (p := ⟨B1, 6, none⟩) hqB0 (.string ⟨#[97]⟩))
      have b1 : Box (((w1.setCell ⟨G, 1, none⟩ (.int .i64 9)).setCell ⟨G, 2, none⟩ (.int .i64 8)).setCell ⟨B1, 6, none⟩ (.string ⟨#[97]⟩)) B1 #[.string ⟨#[97]⟩, .int .i64 0, .int .i64 0, .int .i64 900, .int .i64 920, .int .i64 40, .string ⟨#[97]⟩, .int .i64 30, .int .i64 0, .int .i64 1000, .int .i64 1000, .int .i64 30, .string ⟨#[99]⟩, .int .i64 60, .int .i64 0, .int .i64 700, .int .i64 760, .int .i64 50] 62 := (b1.set 6 (.string ⟨#[97]⟩))
      have b2 := (b2.other (p := ⟨B1, 6, none⟩) hqB2 (.string ⟨#[97]⟩))
      have b3 := (b3.other (p := ⟨B1, 6, none⟩) hqB3 (.string ⟨#[97]⟩))
      have b4 := (b4.other (p := ⟨B1, 6, none⟩) hqB4 (.string ⟨#[97]⟩))
      have b5 := (b5.other (p := ⟨B1, 6, none⟩) hqB5 (.string ⟨#[97]⟩))
      have b6 := (b6.other (p := ⟨B1, 6, none⟩) hqB6 (.string ⟨#[97]⟩))
      clear hqG hqB0 hqB2 hqB3 hqB4 hqB5 hqB6
      have yB27 : (((w1.setCell ⟨G, 1, none⟩ (.int .i64 9)).setCell ⟨G, 2, none⟩ (.int .i64 8)).setCell ⟨B1, 6, none⟩ (.string ⟨#[97]⟩)).cell? ⟨B2, 7, none⟩ = some (.int .i64 30) := b2.cell 7
      have zB27 : (((w1.setCell ⟨G, 1, none⟩ (.int .i64 9)).setCell ⟨G, 2, none⟩ (.int .i64 8)).setCell ⟨B1, 6, none⟩ (.string ⟨#[97]⟩)).frozen? ⟨B2, 7, none⟩ = false := b2.free 7
      have g10 : (((w1.setCell ⟨G, 1, none⟩ (.int .i64 9)).setCell ⟨G, 2, none⟩ (.int .i64 8)).setCell ⟨B1, 6, none⟩ (.string ⟨#[97]⟩)).cell? ⟨G, 10, none⟩ = some (.slice (some ⟨B2, 0, none⟩) 3 3) := bG.cell 10
      have hqG : B2 ≠ G := by omega
      have hqB0 : B2 ≠ B0 := by omega
      have hqB1 : B2 ≠ B1 := by omega
      have hqB3 : B2 ≠ B3 := by omega
      have hqB4 : B2 ≠ B4 := by omega
      have hqB5 : B2 ≠ B5 := by omega
      have hqB6 : B2 ≠ B6 := by omega
      have bG := (bG.other (p := ⟨B2, 7, none⟩) hqG (.int .i64 0))
      have b0 := (b0.other (p := ⟨B2, 7, none⟩) hqB0 (.int .i64 0))
      have b1 := (b1.other (p := ⟨B2, 7, none⟩) hqB1 (.int .i64 0))
      have b2 : Box ((((w1.setCell ⟨G, 1, none⟩ (.int .i64 9)).setCell ⟨G, 2, none⟩ (.int .i64 8)).setCell ⟨B1, 6, none⟩ (.string ⟨#[97]⟩)).setCell ⟨B2, 7, none⟩ (.int .i64 0)) B2 #[.string ⟨#[97]⟩, .int .i64 0, .int .i64 0, .int .i64 900, .int .i64 920, .int .i64 40, .string ⟨#[98]⟩, .int .i64 0, .int .i64 0, .int .i64 1000, .int .i64 1000, .int .i64 30, .string ⟨#[99]⟩, .int .i64 60, .int .i64 0, .int .i64 700, .int .i64 760, .int .i64 50] 62 := (b2.set 7 (.int .i64 0))
      have b3 := (b3.other (p := ⟨B2, 7, none⟩) hqB3 (.int .i64 0))
      have b4 := (b4.other (p := ⟨B2, 7, none⟩) hqB4 (.int .i64 0))
      have b5 := (b5.other (p := ⟨B2, 7, none⟩) hqB5 (.int .i64 0))
      have b6 := (b6.other (p := ⟨B2, 7, none⟩) hqB6 (.int .i64 0))
      clear hqG hqB0 hqB1 hqB3 hqB4 hqB5 hqB6
      have g15 : ((((w1.setCell ⟨G, 1, none⟩ (.int .i64 9)).setCell ⟨G, 2, none⟩ (.int .i64 8)).setCell ⟨B1, 6, none⟩ (.string ⟨#[97]⟩)).setCell ⟨B2, 7, none⟩ (.int .i64 0)).cell? ⟨G, 15, none⟩ = some (.slice (some ⟨B3, 0, none⟩) 3 3) := bG.cell 15
      go_wp2_with fail
      clear yG1 zG1 yG2 zG2 yB16 zB16 g5 yB27 zB27 g10
      have g15' : ((((w1.setCell ⟨G, 1, none⟩ (.int .i64 9)).setCell ⟨G, 2, none⟩ (.int .i64 8)).setCell ⟨B1, 6, none⟩ (.string ⟨#[97]⟩)).setCell ⟨B2, 7, none⟩ (.int .i64 0)).drew.cell? ⟨G, 15, none⟩ = some (.slice (some ⟨B3, 0, none⟩) 3 3) := g15
      refine region_seq (fun W => W.cell? ⟨G, 15, none⟩ = some (.slice (some ⟨B3, 0, none⟩) 3 3)) [(0, true), (1, true), (2, true), (3, true), (4, false), (5, true), (6, true), (7, false)]
        (by kernel_rfl) (by kernel_rfl) (by kernel_rfl) (by simp) (fun _ _ _ _ h => h) g15' ?_
      iterate 4 (refine SeqW.take (v := ?_) rfl (by rfl) (fun W hW => ?_) ?_; rotate_left; (go_simp; with_reducible rfl); simp only [_root_.Go.Act.put, List.setIfInBounds_toArray, List.set_cons_zero, List.set_cons_succ])
      refine SeqW.call rfl (by rfl) (fun K hK => ?_)
      go_simp
      refine (to_any 0 5 _).mono ?_
      rintro e w2 ⟨rfl, hb⟩
      have HB3 : Hid (Below w.heap.size w w2) := Lib.hid ((((((HB2.out.setCell (by exact hGw) _).setCell (by exact hGw) _).setCell (by exact hB1w) _).setCell (by exact hB2w) _).drew).trans (hb.mono (by simpa using HB2.out.size)))
      have bG := (bG.drew).below hb (bG.drew).lt
      have b0 := (b0.drew).below hb (b0.drew).lt
      have b1 := (b1.drew).below hb (b1.drew).lt
      have b2 := (b2.drew).below hb (b2.drew).lt
      have b3 := (b3.drew).below hb (b3.drew).lt
      have b4 := (b4.drew).below hb (b4.drew).lt
      have b5 := (b5.drew).below hb (b5.drew).lt
      have b6 := (b6.drew).below hb (b6.drew).lt
      clear hb g15 g15'
      have g15 : w2.cell? ⟨G, 15, none⟩ = some (.slice (some ⟨B3, 0, none⟩) 3 3) := bG.cell 15
      go_simp
      refine hK.out _ _ g15 ?_
      clear hK K
      iterate 2 (refine SeqW.take (v := ?_) rfl (by rfl) (fun W hW => ?_) ?_; rotate_left; (go_simp; with_reducible rfl); simp only [_root_.Go.Act.put, List.setIfInBounds_toArray, List.set_cons_zero, List.set_cons_succ])
      have x15 : w2.cell? ⟨B3, 15, none⟩ = some (.int .i64 700) := b3.cell 15
      have xf15 : w2.frozen? ⟨B3, 15, none⟩ = false := b3.free 15
      have x16 : w2.cell? ⟨B3, 16, none⟩ = some (.int .i64 760) := b3.cell 16
      have xf16 : w2.frozen? ⟨B3, 16, none⟩ = false := b3.free 16
      refine SeqW.call rfl (by rfl) (fun K hK => ?_)
      go_simp
      clear x15 xf15 x16 xf16
      have hqG : B3 ≠ G := by omega
      have hqB0 : B3 ≠ B0 := by omega
      have hqB1 : B3 ≠ B1 := by omega
      have hqB2 : B3 ≠ B2 := by omega
      have hqB4 : B3 ≠ B4 := by omega
      have hqB5 : B3 ≠ B5 := by omega
      have hqB6 : B3 ≠ B6 := by omega
      have bG := ((bG.other (p := ⟨B3, 15, none⟩) hqG (.int .i64 0)).other (p := ⟨B3, 16, none⟩) hqG (.int .i64 5))
      have b0 := ((b0.other (p := ⟨B3, 15, none⟩) hqB0 (.int .i64 0)).other (p := ⟨B3, 16, none⟩) hqB0 (.int .i64 5))
      have b1 := ((b1.other (p := ⟨B3, 15, none⟩) hqB1 (.int .i64 0)).other (p := ⟨B3, 16, none⟩) hqB1 (.int .i64 5))
      have b2 := ((b2.other (p := ⟨B3, 15, none⟩) hqB2 (.int .i64 0)).other (p := ⟨B3, 16, none⟩) hqB2 (.int .i64 5))
      have b3 : Box ((w2.setCell ⟨B3, 15, none⟩ (.int .i64 0)).setCell ⟨B3, 16, none⟩ (.int .i64 5)) B3 #[.string ⟨#[97]⟩, .int .i64 0, .int .i64 0, .int .i64 900, .int .i64 920, .int .i64 40, .string ⟨#[98]⟩, .int .i64 30, .int .i64 0, .int .i64 1000, .int .i64 1000, .int .i64 30, .string ⟨#[99]⟩, .int .i64 60, .int .i64 0, .int .i64 0, .int .i64 5, .int .i64 50] 62 := ((b3.set 15 (.int .i64 0)).set 16 (.int .i64 5))
      have b4 := ((b4.other (p := ⟨B3, 15, none⟩) hqB4 (.int .i64 0)).other (p := ⟨B3, 16, none⟩) hqB4 (.int .i64 5))
      have b5 := ((b5.other (p := ⟨B3, 15, none⟩) hqB5 (.int .i64 0)).other (p := ⟨B3, 16, none⟩) hqB5 (.int .i64 5))
      have b6 := ((b6.other (p := ⟨B3, 15, none⟩) hqB6 (.int .i64 0)).other (p := ⟨B3, 16, none⟩) hqB6 (.int .i64 5))
      clear hqG hqB0 hqB1 hqB2 hqB4 hqB5 hqB6
      have g15' : ((w2.setCell ⟨B3, 15, none⟩ (.int .i64 0)).setCell ⟨B3, 16, none⟩ (.int .i64 5)).cell? ⟨G, 15, none⟩ = some (.slice (some ⟨B3, 0, none⟩) 3 3) := bG.cell 15
      refine hK.out _ _ g15' ?_
      clear hK K g15 g15'
      refine SeqW.done ?_
      have yB45 : ((w2.setCell ⟨B3, 15, none⟩ (.int .i64 0)).setCell ⟨B3, 16, none⟩ (.int .i64 5)).cell? ⟨B4, 5, none⟩ = some (.int .i64 40) := b4.cell 5
      have zB45 : ((w2.setCell ⟨B3, 15, none⟩ (.int .i64 0)).setCell ⟨B3, 16, none⟩ (.int .i64 5)).frozen? ⟨B4, 5, none⟩ = false := b4.free 5
      have g20 : ((w2.setCell ⟨B3, 15, none⟩ (.int .i64 0)).setCell ⟨B3, 16, none⟩ (.int .i64 5)).cell? ⟨G, 20, none⟩ = some (.slice (some ⟨B4, 0, none⟩) 3 3) := bG.cell 20
      have hqG : B4 ≠ G := by omega
      have hqB0 : B4 ≠ B0 := by omega
      have hqB1 : B4 ≠ B1 := by omega
      have hqB2 : B4 ≠ B2 := by omega
      have hqB3 : B4 ≠ B3 := by omega
      have hqB5 : B4 ≠ B5 := by omega
      have hqB6 : B4 ≠ B6 := by omega
      have bG := (bG.other (p := ⟨B4, 5, none⟩) hqG (.int .i64 101))
      have b0 := (b0.other (p := ⟨B4, 5, none⟩) hqB0 (.int .i64 101))
      have b1 := (b1.other (p := ⟨B4, 5, none⟩) hqB1 (.int .i64 101))
      have b2 := (b2.other (p := ⟨B4, 5, none⟩) hqB2 (.int .i64 101))
      have b3 := (b3.other (p := ⟨B4, 5, none⟩) hqB3 (.int .i64 101))
      have b4 : Box (((w2.setCell ⟨B3, 15, none⟩ (.int .i64 0)).setCell ⟨B3, 16, none⟩ (.int .i64 5)).setCell ⟨B4, 5, none⟩ (.int .i64 101)) B4 #[.string ⟨#[97]⟩, .int .i64 0, .int .i64 0, .int .i64 900, .int .i64 920, .int .i64 101, .string ⟨#[98]⟩, .int .i64 30, .int .i64 0, .int .i64 1000, .int .i64 1000, .int .i64 30, .string ⟨#[99]⟩, .int .i64 60, .int .i64 0, .int .i64 700, .int .i64 760, .int .i64 50] 62 := (b4.set 5 (.int .i64 101))
      have b5 := (b5.other (p := ⟨B4, 5, none⟩) hqB5 (.int .i64 101))
      have b6 := (b6.other (p := ⟨B4, 5, none⟩) hqB6 (.int .i64 101))
      clear hqG hqB0 hqB1 hqB2 hqB3 hqB5 hqB6
      have yG29 : (((w2.setCell ⟨B3, 15, none⟩ (.int .i64 0)).setCell ⟨B3, 16, none⟩ (.int .i64 5)).setCell ⟨B4, 5, none⟩ (.int .i64 101)).cell? ⟨G, 29, none⟩ = some (.int .i64 30) := bG.cell 29
      have zG29 : (((w2.setCell ⟨B3, 15, none⟩ (.int .i64 0)).setCell ⟨B3, 16, none⟩ (.int .i64 5)).setCell ⟨B4, 5, none⟩ (.int .i64 101)).frozen? ⟨G, 29, none⟩ = false := bG.free 29
      have hqB0 : G ≠ B0 := by omega
      have hqB1 : G ≠ B1 := by omega
      have hqB2 : G ≠ B2 := by omega
      have hqB3 : G ≠ B3 := by omega
      have hqB4 : G ≠ B4 := by omega
      have hqB5 : G ≠ B5 := by omega
      have hqB6 : G ≠ B6 := by omega
      have bG : Box ((((w2.setCell ⟨B3, 15, none⟩ (.int .i64 0)).setCell ⟨B3, 16, none⟩ (.int .i64 5)).setCell ⟨B4, 5, none⟩ (.int .i64 101)).setCell ⟨G, 29, none⟩ (.int .i64 (-1))) G #[.slice (some ⟨B0, 0, none⟩) 3 3, .int .i64 9, .int .i64 8, .int .i64 3, .int .i64 30, .slice (some ⟨B1, 0, none⟩) 3 3, .int .i64 8, .int .i64 12, .int .i64 3, .int .i64 30, .slice (some ⟨B2, 0, none⟩) 3 3, .int .i64 8, .int .i64 12, .int .i64 3, .int .i64 30, .slice (some ⟨B3, 0, none⟩) 3 3, .int .i64 8, .int .i64 12, .int .i64 3, .int .i64 30, .slice (some ⟨B4, 0, none⟩) 3 3, .int .i64 8, .int .i64 12, .int .i64 3, .int .i64 30, .slice (some ⟨B5, 0, none⟩) 3 3, .int .i64 8, .int .i64 12, .int .i64 3, .int .i64 (-1), .slice (some ⟨B6, 0, none⟩) 15 15, .int .i64 0, .int .i64 0, .int .i64 0, .int .i64 0] 29 := (bG.set 29 (.int .i64 (-1)))
      have b0 := (b0.other (p := ⟨G, 29, none⟩) hqB0 (.int .i64 (-1)))
      have b1 := (b1.other (p := ⟨G, 29, none⟩) hqB1 (.int .i64 (-1)))
      have b2 := (b2.other (p := ⟨G, 29, none⟩) hqB2 (.int .i64 (-1)))
      have b3 := (b3.other (p := ⟨G, 29, none⟩) hqB3 (.int .i64 (-1)))
      have b4 := (b4.other (p := ⟨G, 29, none⟩) hqB4 (.int .i64 (-1)))
      have b5 := (b5.other (p := ⟨G, 29, none⟩) hqB5 (.int .i64 (-1)))
      have b6 := (b6.other (p := ⟨G, 29, none⟩) hqB6 (.int .i64 (-1)))
      clear hqB0 hqB1 hqB2 hqB3 hqB4 hqB5 hqB6
      have hb9 : Below w.heap.size w ((((w2.setCell ⟨B3, 15, none⟩ (.int .i64 0)).setCell ⟨B3, 16, none⟩ (.int .i64 5)).setCell ⟨B4, 5, none⟩ (.int .i64 101)).setCell ⟨G, 29, none⟩ (.int .i64 (-1))) := ((((HB3.out.setCell (by exact hB3w) _).setCell (by exact hB3w) _).setCell (by exact hB4w) _).setCell (by exact hGw) _)
      go_wp2_with fail
      clear yB45 zB45 yG29 zG29 g20 n0 n1 n2 n3 n4 n5 n6 m0 m1 m2 m3 m4 m5 l1 l2 l3 l4 l5 l6 l7 hGw hB1w hB2w hB3w hB4w
      obtain ⟨V9, hV9⟩ : ∃ V9, V9 = ((((w2.setCell ⟨B3, 15, none⟩ (.int .i64 0)).setCell ⟨B3, 16, none⟩ (.int .i64 5)).setCell ⟨B4, 5, none⟩ (.int .i64 101)).setCell ⟨G, 29, none⟩ (.int .i64 (-1))) := ⟨_, rfl⟩
      rw [← hV9] at bG b0 b1 b2 b3 b4 b5 b6 hb9
      rw [← hV9]
      have HB9 := Lib.hid hb9
      clear hV9 hb9
      have HBAD : Hid (∀ k, k < 7 → ∃ (a : Option Addr) (n c : Nat) (ts : List Tree) (lo hi pr ne : Int), checkE ⟨ts, lo, hi, pr, ne⟩ = 10 ∧ ∀ U, Below V9.heap.size V9 U → U.cell? ⟨G, k * 5, none⟩ = some (.slice a n c) ∧ U.cell? ⟨G, k * 5 + 1, none⟩ = some (.int .i64 lo) ∧ U.cell? ⟨G, k * 5 + 2, none⟩ = some (.int .i64 hi) ∧ U.cell? ⟨G, k * 5 + 3, none⟩ = some (.int .i64 pr) ∧ U.cell? ⟨G, k * 5 + 4, none⟩ = some (.int .i64 ne) ∧ Trees U a n c ts) := Lib.hid fun k hk => by
        match k, hk with
        | 0, _ => exact ⟨(some ⟨B0, 0, none⟩), 3, 3, [⟨⟨#[97]⟩, 0, 0, 900, 920, 40⟩, ⟨⟨#[98]⟩, 30, 0, 1000, 1000, 30⟩, ⟨⟨#[99]⟩, 60, 0, 700, 760, 50⟩], 9, 8, 3, 30, bad_0, fun U h => have g := bG.below h bG.lt; ⟨g.cell 0, g.cell 1, g.cell 2, g.cell 3, g.cell 4, tr3 (b0.below h b0.lt) (by decide +kernel) (by decide +kernel) (by decide +kernel)⟩⟩
        | 1, _ => exact ⟨(some ⟨B1, 0, none⟩), 3, 3, [⟨⟨#[97]⟩, 0, 0, 900, 920, 40⟩, ⟨⟨#[97]⟩, 30, 0, 1000, 1000, 30⟩, ⟨⟨#[99]⟩, 60, 0, 700, 760, 50⟩], 8, 12, 3, 30, bad_1, fun U h => have g := bG.below h bG.lt; ⟨g.cell 5, g.cell 6, g.cell 7, g.cell 8, g.cell 9, tr3 (b1.below h b1.lt) (by decide +kernel) (by decide +kernel) (by decide +kernel)⟩⟩
        | 2, _ => exact ⟨(some ⟨B2, 0, none⟩), 3, 3, [⟨⟨#[97]⟩, 0, 0, 900, 920, 40⟩, ⟨⟨#[98]⟩, 0, 0, 1000, 1000, 30⟩, ⟨⟨#[99]⟩, 60, 0, 700, 760, 50⟩], 8, 12, 3, 30, bad_2, fun U h => have g := bG.below h bG.lt; ⟨g.cell 10, g.cell 11, g.cell 12, g.cell 13, g.cell 14, tr3 (b2.below h b2.lt) (by decide +kernel) (by decide +kernel) (by decide +kernel)⟩⟩
        | 3, _ => exact ⟨(some ⟨B3, 0, none⟩), 3, 3, [⟨⟨#[97]⟩, 0, 0, 900, 920, 40⟩, ⟨⟨#[98]⟩, 30, 0, 1000, 1000, 30⟩, ⟨⟨#[99]⟩, 60, 0, 0, 5, 50⟩], 8, 12, 3, 30, bad_3, fun U h => have g := bG.below h bG.lt; ⟨g.cell 15, g.cell 16, g.cell 17, g.cell 18, g.cell 19, tr3 (b3.below h b3.lt) (by decide +kernel) (by decide +kernel) (by decide +kernel)⟩⟩
        | 4, _ => exact ⟨(some ⟨B4, 0, none⟩), 3, 3, [⟨⟨#[97]⟩, 0, 0, 900, 920, 101⟩, ⟨⟨#[98]⟩, 30, 0, 1000, 1000, 30⟩, ⟨⟨#[99]⟩, 60, 0, 700, 760, 50⟩], 8, 12, 3, 30, bad_4, fun U h => have g := bG.below h bG.lt; ⟨g.cell 20, g.cell 21, g.cell 22, g.cell 23, g.cell 24, tr3 (b4.below h b4.lt) (by decide +kernel) (by decide +kernel) (by decide +kernel)⟩⟩
        | 5, _ => exact ⟨(some ⟨B5, 0, none⟩), 3, 3, [⟨⟨#[97]⟩, 0, 0, 900, 920, 40⟩, ⟨⟨#[98]⟩, 30, 0, 1000, 1000, 30⟩, ⟨⟨#[99]⟩, 60, 0, 700, 760, 50⟩], 8, 12, 3, (-1), bad_5, fun U h => have g := bG.below h bG.lt; ⟨g.cell 25, g.cell 26, g.cell 27, g.cell 28, g.cell 29, tr3 (b5.below h b5.lt) (by decide +kernel) (by decide +kernel) (by decide +kernel)⟩⟩
        | 6, _ => exact ⟨(some ⟨B6, 0, none⟩), 15, 15, (List.replicate 15 zeroTree), 0, 0, 0, 0, bad_6, fun U h => have g := bG.below h bG.lt; ⟨g.cell 30, g.cell 31, g.cell 32, g.cell 33, g.cell 34, tr15 (b6.below h b6.lt)⟩⟩
        | _ + 7, hk => exact absurd hk (by omega)
      clear bG b0 b1 b2 b3 b4 b5 b6
      go_loopw [4] (fun iv wr => ∃ k : Nat, k ≤ 7 ∧ iv = .int .i64 k ∧ Below V9.heap.size V9 wr) (fun iv _ => 7 - (intOf iv).toNat)
      case atStart => exact ⟨0, by omega, rfl, Below.refl _ _⟩
      case round =>
        obtain ⟨k, hk, rfl, hBr⟩ := hrel
        by_cases hlt : k < 7
        · obtain ⟨a, n, c, ts, lo, hi, pr, ne, hE, hU⟩ := HBAD.out k hlt
          have hk' : (k : Int) < 7 := by omega
          have HE := Lib.hid hE
          have HBR := Lib.hid hBr
          clear hE hBr
          obtain ⟨s0, s1, s2, s3, s4, hT⟩ := hU _ HBR.out
          have HU := Lib.hid hU
          clear hU
          go_wp2_with fail
          refine (near_code a n c ts lo hi pr ne 99 10 _ hT (by unfold nearE; rw [HE.out]; rfl)).mono ?_
          rintro e v1 ⟨x1, rfl, hb⟩
          have H1 := Lib.hid (HBR.out.trans (hb.mono HBR.out.size))
          clear hb hT s0 s1 s2 s3 s4
          obtain ⟨s0, s1, s2, s3, s4, hT⟩ := HU.out _ H1.out
          go_wp2_with fail
          refine (thin_code a n c ts lo hi pr ne (-1) 10 _ hT (by unfold thinE; rw [HE.out]; rfl)).mono ?_
          rintro e v2 ⟨x2, y2, rfl, hb⟩
          have H2 := Lib.hid (H1.out.trans (hb.mono H1.out.size))
          clear hb hT s0 s1 s2 s3 s4
          obtain ⟨s0, s1, s2, s3, s4, hT⟩ := HU.out _ H2.out
          go_wp2_with fail
          refine (print_code a n c ts lo hi pr ne 10 _ hT (HP.out _ (HB9.out.trans (H2.out.mono HB9.out.size))) HE.out).mono ?_
          rintro e v3 ⟨y3, rfl, hb⟩
          have H3 := Lib.hid (H2.out.trans (hb.mono H2.out.size))
          clear hb hT s0 s1 s2 s3 s4
          go_wp2_with fail
          have hU := HU.out
          have S0 : Below V9.heap.size V9 v3.drew := H3.out.drew
          refine region_planS (fun W => Below V9.heap.size V9 W) (.take 1 (.take 2 (.take 3 (.take 4 (.two 0 9 (.two 5 9 (.take 6 (.take 7 (.take 8 (.one 9 (.one 10 (.take 11 (.done))))))) (.one 5 (.take 6 (.take 7 (.take 8 (.one 10 (.take 11 (.done)))))))) (.one 0 (.one 5 (.take 6 (.take 7 (.take 8 (.one 10 (.take 11 (.done)))))))))))))
            (by kernel_rfl) (by kernel_rfl) (by kernel_rfl) (by simp [Plan.depth]) (fun _ _ _ _ h => h) S0 ?_
          iterate 3 (refine PlanS.free (v := ?_) rfl (by rfl) (fun W hW => ?_) ?_; rotate_left; (go_simp; with_reducible rfl); simp only [_root_.Go.Act.put, List.setIfInBounds_toArray, List.set_cons_zero, List.set_cons_succ])
          (refine PlanS.free (v := ?_) rfl (by rfl) (fun W hW => ?_) ?_; rotate_left; (obtain ⟨s0, s1, s2, s3, s4, _⟩ := hU W hW; clear hW; go_simp; with_reducible rfl); simp only [_root_.Go.Act.put, List.setIfInBounds_toArray, List.set_cons_zero, List.set_cons_succ])
          refine And.intro ?_ ?_
          · refine wpOp_planS rfl (by rfl) (fun K hK => ?_)
            go_simp
            refine (rule_any _).mono ?_
            rintro e u1 ⟨rfl, hb⟩
            have S1 := S0.trans (hb.mono S0.size)
            go_simp
            refine hK.out _ _ S1 ?_
            clear hK K hb
            refine And.intro ?_ ?_
            · refine wpOp_planS rfl (by rfl) (fun K hK => ?_)
              go_simp
              refine (ready_code 950 1300 1700 35 a n c ts lo hi pr ne 0 0 10 _ (hU _ S1).2.2.2.2.2 (by unfold readyE; rw [HE.out]; rfl)).mono ?_
              rintro e u2 ⟨p, q, rfl, hb⟩
              have S2 := S1.trans (hb.mono S1.size)
              go_simp
              refine hK.out _ _ S2 ?_
              clear hK K hb
              iterate 3 (refine PlanS.free (v := ?_) rfl (by rfl) (fun W hW => ?_) ?_; rotate_left; (go_simp; with_reducible rfl); simp only [_root_.Go.Act.put, List.setIfInBounds_toArray, List.set_cons_zero, List.set_cons_succ])
              refine PlanS.call rfl (by rfl) (fun K hK => ?_)
              go_simp
              refine hK.out _ _ (S2.alloc S2.size (.cells #[.int .i64 0, .int .i64 0] 27)) ?_
              clear hK K
              refine PlanS.call rfl (by rfl) (fun K hK => ?_)
              go_simp
              refine hK.out _ _ (S2.alloc S2.size (.cells #[.int .i64 p, .int .i64 q] 27)) ?_
              clear hK K
              (refine PlanS.free (v := ?_) rfl (by rfl) (fun W hW => ?_) ?_; rotate_left; (go_simp; with_reducible rfl); simp only [_root_.Go.Act.put, List.setIfInBounds_toArray, List.set_cons_zero, List.set_cons_succ])
              refine PlanS.end' ?_
              have SF := S2.alloc S2.size (.cells #[.int .i64 p, .int .i64 q] 27)
              clear S0 S1 S2
              obtain ⟨s0, s1, s2, s3, s4, hT⟩ := hU _ SF
              have HSF := Lib.hid SF
              go_wp2_with fail
              refine (check_any a n c ts lo hi pr ne _ hT).mono ?_
              rw [HE.out]
              rintro e w9 ⟨rfl, hb⟩
              have HSG := Lib.hid (HSF.out.trans (hb.mono HSF.out.size))
              clear hb hT s0 s1 s2 s3 s4
              go_wp2_with fail
              go_roundw
              case rel => exact ⟨k + 1, by omega, by go_num, HSG.out⟩
              case measure => simp [intOf]; omega
            · refine wpOp_planS rfl (by rfl) (fun K hK => ?_)
              go_simp
              have S1a := S1.alloc S1.size (.cells #[.int .i64 0, .int .i64 0] 27)
              have bz0 := Box.new u1 #[.int .i64 0, .int .i64 0] 27
              refine hK.out _ _ S1a ?_
              clear hK K
              refine PlanS.call rfl (by rfl) (fun K hK => ?_)
              go_simp
              refine (ready_code 950 1300 1700 35 a n c ts lo hi pr ne 0 0 10 _ (hU _ S1a).2.2.2.2.2 (by unfold readyE; rw [HE.out]; rfl)).mono ?_
              rintro e u2 ⟨p, q, rfl, hb⟩
              have S2 := S1a.trans (hb.mono S1a.size)
              have bz := bz0.below hb bz0.lt
              have hzb : V9.heap.size ≤ u1.heap.size := S1.size
              go_simp
              refine hK.out _ _ S2 ?_
              clear hK K hb
              iterate 3 (refine PlanS.free (v := ?_) rfl (by rfl) (fun W hW => ?_) ?_; rotate_left; (go_simp; with_reducible rfl); simp only [_root_.Go.Act.put, List.setIfInBounds_toArray, List.set_cons_zero, List.set_cons_succ])
              have z0 : u2.cell? ⟨u1.heap.size, 0, none⟩ = some (.int .i64 0) := bz.cell 0
              have z1 : u2.cell? ⟨u1.heap.size, 1, none⟩ = some (.int .i64 0) := bz.cell 1
              have zf0 : u2.frozen? ⟨u1.heap.size, 0, none⟩ = false := bz.free 0
              have zf1 : u2.frozen? ⟨u1.heap.size, 1, none⟩ = false := bz.free 1
              have SF := (S2.setCell (p := ⟨u1.heap.size, 0, none⟩) (by exact hzb) (.int .i64 p)).setCell (p := ⟨u1.heap.size, 1, none⟩) (by exact hzb) (.int .i64 q)
              refine PlanS.call rfl (by rfl) (fun K hK => ?_)
              go_simp
              refine hK.out _ _ SF ?_
              clear hK K z0 z1 zf0 zf1
              (refine PlanS.free (v := ?_) rfl (by rfl) (fun W hW => ?_) ?_; rotate_left; (go_simp; with_reducible rfl); simp only [_root_.Go.Act.put, List.setIfInBounds_toArray, List.set_cons_zero, List.set_cons_succ])
              refine PlanS.end' ?_
              clear S0 S1 S1a S2 bz bz0 hzb
              obtain ⟨s0, s1, s2, s3, s4, hT⟩ := hU _ SF
              have HSF := Lib.hid SF
              go_wp2_with fail
              refine (check_any a n c ts lo hi pr ne _ hT).mono ?_
              rw [HE.out]
              rintro e w9 ⟨rfl, hb⟩
              have HSG := Lib.hid (HSF.out.trans (hb.mono HSF.out.size))
              clear hb hT s0 s1 s2 s3 s4
              go_wp2_with fail
              go_roundw
              case rel => exact ⟨k + 1, by omega, by go_num, HSG.out⟩
              case measure => simp [intOf]; omega
          · refine wpOp_planS rfl (by rfl) (fun K hK => ?_)
            go_simp
            have S0a := (H3.out.alloc H3.out.size (.cells #[.int .i64 0, .int .i64 0] 27)).drew
            have bz0 := (Box.new v3 #[.int .i64 0, .int .i64 0] 27).drew
            refine hK.out _ _ S0a ?_
            clear hK K
            refine PlanS.call rfl (by rfl) (fun K hK => ?_)
            go_simp
            refine (rule_any _).mono ?_
            rintro e u1 ⟨rfl, hb⟩
            have S1 := S0a.trans (hb.mono S0a.size)
            have bz1 := bz0.below hb bz0.lt
            go_simp
            refine hK.out _ _ S1 ?_
            clear hK K hb
            refine PlanS.call rfl (by rfl) (fun K hK => ?_)
            go_simp
            refine (ready_code 950 1300 1700 35 a n c ts lo hi pr ne 0 0 10 _ (hU _ S1).2.2.2.2.2 (by unfold readyE; rw [HE.out]; rfl)).mono ?_
            rintro e u2 ⟨p, q, rfl, hb⟩
            have S2 := S1.trans (hb.mono S1.size)
            have bz := bz1.below hb bz1.lt
            have hzb : V9.heap.size ≤ v3.heap.size := H3.out.size
            go_simp
            refine hK.out _ _ S2 ?_
            clear hK K hb
            iterate 3 (refine PlanS.free (v := ?_) rfl (by rfl) (fun W hW => ?_) ?_; rotate_left; (go_simp; with_reducible rfl); simp only [_root_.Go.Act.put, List.setIfInBounds_toArray, List.set_cons_zero, List.set_cons_succ])
            have z0 : u2.cell? ⟨v3.heap.size, 0, none⟩ = some (.int .i64 0) := bz.cell 0
            have z1 : u2.cell? ⟨v3.heap.size, 1, none⟩ = some (.int .i64 0) := bz.cell 1
            have zf0 : u2.frozen? ⟨v3.heap.size, 0, none⟩ = false := bz.free 0
            have zf1 : u2.frozen? ⟨v3.heap.size, 1, none⟩ = false := bz.free 1
            have SF := (S2.setCell (p := ⟨v3.heap.size, 0, none⟩) (by exact hzb) (.int .i64 p)).setCell (p := ⟨v3.heap.size, 1, none⟩) (by exact hzb) (.int .i64 q)
            refine PlanS.call rfl (by rfl) (fun K hK => ?_)
            go_simp
            refine hK.out _ _ SF ?_
            clear hK K z0 z1 zf0 zf1
            (refine PlanS.free (v := ?_) rfl (by rfl) (fun W hW => ?_) ?_; rotate_left; (go_simp; with_reducible rfl); simp only [_root_.Go.Act.put, List.setIfInBounds_toArray, List.set_cons_zero, List.set_cons_succ])
            refine PlanS.end' ?_
            clear S0 S0a S1 S2 bz bz0 bz1 hzb
            obtain ⟨s0, s1, s2, s3, s4, hT⟩ := hU _ SF
            have HSF := Lib.hid SF
            go_wp2_with fail
            refine (check_any a n c ts lo hi pr ne _ hT).mono ?_
            rw [HE.out]
            rintro e w9 ⟨rfl, hb⟩
            have HSG := Lib.hid (HSF.out.trans (hb.mono HSF.out.size))
            clear hb hT s0 s1 s2 s3 s4
            go_wp2_with fail
            go_roundw
            case rel => exact ⟨k + 1, by omega, by go_num, HSG.out⟩
            case measure => simp [intOf]; omega
        obtain rfl : k = 7 := by omega
        have HBR := Lib.hid hBr
        clear hBr
        go_wp2_with fail
        refine (rule_any _).mono ?_
        rintro e u1 ⟨rfl, hb⟩
        have H1 := Lib.hid (HBR.out.trans (hb.mono HBR.out.size))
        clear hb
        go_wp2_with fail
        refine (rule_any _).mono ?_
        rintro e u2 ⟨rfl, hb⟩
        have H2 := Lib.hid (H1.out.trans (hb.mono H1.out.size))
        clear hb
        go_wp2_with fail
        refine (rule_any _).mono ?_
        rintro e u3 ⟨rfl, hb⟩
        have H3 := Lib.hid (H2.out.trans (hb.mono H2.out.size))
        clear hb H1 H2
        go_wp2_with fail
        have HR : Hid (∀ k, k < 4 → ∃ ra rb rc rr : Int, ruleE ⟨ra, rb, rc, rr⟩ = 11 ∧ ∀ U, Below (u3.alloc (.cells #[.int .i64 0, .int .i64 0, .int .i64 0, .int .i64 0, .int .i64 950, .int .i64 950, .int .i64 1700, .int .i64 35, .int .i64 950, .int .i64 1300, .int .i64 4001, .int .i64 35, .int .i64 950, .int .i64 1300, .int .i64 1700, .int .i64 101] 24)).heap.size (u3.alloc (.cells #[.int .i64 0, .int .i64 0, .int .i64 0, .int .i64 0, .int .i64 950, .int .i64 950, .int .i64 1700, .int .i64 35, .int .i64 950, .int .i64 1300, .int .i64 4001, .int .i64 35, .int .i64 950, .int .i64 1300, .int .i64 1700, .int .i64 101] 24)) U → U.cell? ⟨u3.heap.size, k * 4, none⟩ = some (.int .i64 ra) ∧ U.cell? ⟨u3.heap.size, k * 4 + 1, none⟩ = some (.int .i64 rb) ∧ U.cell? ⟨u3.heap.size, k * 4 + 2, none⟩ = some (.int .i64 rc) ∧ U.cell? ⟨u3.heap.size, k * 4 + 3, none⟩ = some (.int .i64 rr)) := Lib.hid fun k hk => by
          match k, hk with
          | 0, _ => exact ⟨0, 0, 0, 0, rfl, fun U h => have b := (Box.new u3 #[.int .i64 0, .int .i64 0, .int .i64 0, .int .i64 0, .int .i64 950, .int .i64 950, .int .i64 1700, .int .i64 35, .int .i64 950, .int .i64 1300, .int .i64 4001, .int .i64 35, .int .i64 950, .int .i64 1300, .int .i64 1700, .int .i64 101] 24).below h (by simp); ⟨b.cell 0, b.cell 1, b.cell 2, b.cell 3⟩⟩
          | 1, _ => exact ⟨950, 950, 1700, 35, rfl, fun U h => have b := (Box.new u3 #[.int .i64 0, .int .i64 0, .int .i64 0, .int .i64 0, .int .i64 950, .int .i64 950, .int .i64 1700, .int .i64 35, .int .i64 950, .int .i64 1300, .int .i64 4001, .int .i64 35, .int .i64 950, .int .i64 1300, .int .i64 1700, .int .i64 101] 24).below h (by simp); ⟨b.cell 4, b.cell 5, b.cell 6, b.cell 7⟩⟩
          | 2, _ => exact ⟨950, 1300, 4001, 35, rfl, fun U h => have b := (Box.new u3 #[.int .i64 0, .int .i64 0, .int .i64 0, .int .i64 0, .int .i64 950, .int .i64 950, .int .i64 1700, .int .i64 35, .int .i64 950, .int .i64 1300, .int .i64 4001, .int .i64 35, .int .i64 950, .int .i64 1300, .int .i64 1700, .int .i64 101] 24).below h (by simp); ⟨b.cell 8, b.cell 9, b.cell 10, b.cell 11⟩⟩
          | 3, _ => exact ⟨950, 1300, 1700, 101, rfl, fun U h => have b := (Box.new u3 #[.int .i64 0, .int .i64 0, .int .i64 0, .int .i64 0, .int .i64 950, .int .i64 950, .int .i64 1700, .int .i64 35, .int .i64 950, .int .i64 1300, .int .i64 4001, .int .i64 35, .int .i64 950, .int .i64 1300, .int .i64 1700, .int .i64 101] 24).below h (by simp); ⟨b.cell 12, b.cell 13, b.cell 14, b.cell 15⟩⟩
          | _ + 4, hk => exact absurd hk (by omega)
        obtain ⟨a, n, c, ts, lo, hi, pr, ne, _, hU0⟩ := HBAD.out 0 (by omega)
        have HU : Hid (∀ U, Below (u3.alloc (.cells #[.int .i64 0, .int .i64 0, .int .i64 0, .int .i64 0, .int .i64 950, .int .i64 950, .int .i64 1700, .int .i64 35, .int .i64 950, .int .i64 1300, .int .i64 4001, .int .i64 35, .int .i64 950, .int .i64 1300, .int .i64 1700, .int .i64 101] 24)).heap.size (u3.alloc (.cells #[.int .i64 0, .int .i64 0, .int .i64 0, .int .i64 0, .int .i64 950, .int .i64 950, .int .i64 1700, .int .i64 35, .int .i64 950, .int .i64 1300, .int .i64 4001, .int .i64 35, .int .i64 950, .int .i64 1300, .int .i64 1700, .int .i64 101] 24)) U → Below w.heap.size w U ∧ U.cell? ⟨G, 0, none⟩ = some (.slice a n c) ∧ U.cell? ⟨G, 1, none⟩ = some (.int .i64 lo) ∧ U.cell? ⟨G, 2, none⟩ = some (.int .i64 hi) ∧ U.cell? ⟨G, 3, none⟩ = some (.int .i64 pr) ∧ U.cell? ⟨G, 4, none⟩ = some (.int .i64 ne) ∧ Trees U a n c ts) := Lib.hid fun U h => by
          have h9 : Below V9.heap.size V9 U := H3.out.trans (((Below.refl u3.heap.size u3).alloc (Nat.le_refl _) _ |>.trans (h.mono (by simp))).mono H3.out.size)
          exact ⟨HB9.out.trans (h9.mono HB9.out.size), hU0 U h9⟩
        clear hU0 HBAD HBR
        go_loopw [15] (fun iv wr => ∃ k : Nat, k ≤ 4 ∧ iv = .int .i64 k ∧ Below (u3.alloc (.cells #[.int .i64 0, .int .i64 0, .int .i64 0, .int .i64 0, .int .i64 950, .int .i64 950, .int .i64 1700, .int .i64 35, .int .i64 950, .int .i64 1300, .int .i64 4001, .int .i64 35, .int .i64 950, .int .i64 1300, .int .i64 1700, .int .i64 101] 24)).heap.size (u3.alloc (.cells #[.int .i64 0, .int .i64 0, .int .i64 0, .int .i64 0, .int .i64 950, .int .i64 950, .int .i64 1700, .int .i64 35, .int .i64 950, .int .i64 1300, .int .i64 4001, .int .i64 35, .int .i64 950, .int .i64 1300, .int .i64 1700, .int .i64 101] 24)) wr) (fun iv _ => 4 - (intOf iv).toNat)
        case atStart => exact ⟨0, by omega, rfl, Below.refl _ _⟩
        case round =>
          obtain ⟨k, hk, rfl, hBr⟩ := hrel
          by_cases hlt : k < 4
          · obtain ⟨ra, rb, rc, rr, hE, hR⟩ := HR.out k hlt
            have hk' : (k : Int) < 4 := by omega
            have HE := Lib.hid hE
            have hU := HU.out
            clear hE
            go_wp2_with fail
            have S0 : Below (u3.alloc (.cells #[.int .i64 0, .int .i64 0, .int .i64 0, .int .i64 0, .int .i64 950, .int .i64 950, .int .i64 1700, .int .i64 35, .int .i64 950, .int .i64 1300, .int .i64 4001, .int .i64 35, .int .i64 950, .int .i64 1300, .int .i64 1700, .int .i64 101] 24)).heap.size (u3.alloc (.cells #[.int .i64 0, .int .i64 0, .int .i64 0, .int .i64 0, .int .i64 950, .int .i64 950, .int .i64 1700, .int .i64 35, .int .i64 950, .int .i64 1300, .int .i64 4001, .int .i64 35, .int .i64 950, .int .i64 1300, .int .i64 1700, .int .i64 101] 24)) wr.drew := hBr.drew
            refine region_planS (fun W => Below (u3.alloc (.cells #[.int .i64 0, .int .i64 0, .int .i64 0, .int .i64 0, .int .i64 950, .int .i64 950, .int .i64 1700, .int .i64 35, .int .i64 950, .int .i64 1300, .int .i64 4001, .int .i64 35, .int .i64 950, .int .i64 1300, .int .i64 1700, .int .i64 101] 24)).heap.size (u3.alloc (.cells #[.int .i64 0, .int .i64 0, .int .i64 0, .int .i64 0, .int .i64 950, .int .i64 950, .int .i64 1700, .int .i64 35, .int .i64 950, .int .i64 1300, .int .i64 4001, .int .i64 35, .int .i64 950, .int .i64 1300, .int .i64 1700, .int .i64 101] 24)) W) (.take 0 (.take 1 (.take 2 (.take 3 (.take 4 (.take 5 (.take 6 (.two 7 11 (.take 8 (.take 9 (.take 10 (.one 11 (.one 12 (.take 13 (.done))))))) (.one 7 (.take 8 (.take 9 (.take 10 (.one 12 (.take 13 (.done)))))))))))))))
              (by kernel_rfl) (by kernel_rfl) (by kernel_rfl) (by simp [Plan.depth]) (fun _ _ _ _ h => h) S0 ?_
            iterate 7 (first | (refine PlanS.free (v := ?_) rfl (by rfl) (fun W hW => ?_) ?_; rotate_left; (go_simp; with_reducible rfl); simp only [_root_.Go.Act.put, List.setIfInBounds_toArray, List.set_cons_zero, List.set_cons_succ]) | (refine PlanS.free (v := ?_) rfl (by rfl) (fun W hW => ?_) ?_; rotate_left; (obtain ⟨r0, r1, r2, r3⟩ := hR W hW; obtain ⟨_, s0, s1, s2, s3, s4, _⟩ := hU W hW; clear hW; go_simp; with_reducible rfl); simp only [_root_.Go.Act.put, List.setIfInBounds_toArray, List.set_cons_zero, List.set_cons_succ]))
            refine And.intro ?_ ?_
            · refine wpOp_planS rfl (by rfl) (fun K hK => ?_)
              go_simp
              refine (faces_code ra rb rc rr a n c ts lo hi pr ne 9 9 11 _ (hU _ S0).2.2.2.2.2.2 (by unfold facesE; rw [HE.out]; rfl)).mono ?_
              rintro e v2 ⟨p, q, rfl, hb⟩
              have S2 := S0.trans (hb.mono S0.size)
              go_simp
              refine hK.out _ _ S2 ?_
              clear hK K hb
              iterate 3 (refine PlanS.free (v := ?_) rfl (by rfl) (fun W hW => ?_) ?_; rotate_left; (go_simp; with_reducible rfl); simp only [_root_.Go.Act.put, List.setIfInBounds_toArray, List.set_cons_zero, List.set_cons_succ])
              refine PlanS.call rfl (by rfl) (fun K hK => ?_)
              go_simp
              refine hK.out _ _ (S2.alloc S2.size (.cells #[.int .i64 0, .int .i64 0] 27)) ?_
              clear hK K
              refine PlanS.call rfl (by rfl) (fun K hK => ?_)
              go_simp
              refine hK.out _ _ (S2.alloc S2.size (.cells #[.int .i64 p, .int .i64 q] 27)) ?_
              clear hK K
              (refine PlanS.free (v := ?_) rfl (by rfl) (fun W hW => ?_) ?_; rotate_left; (go_simp; with_reducible rfl); simp only [_root_.Go.Act.put, List.setIfInBounds_toArray, List.set_cons_zero, List.set_cons_succ])
              refine PlanS.end' ?_
              have SF := S2.alloc S2.size (.cells #[.int .i64 p, .int .i64 q] 27)
              clear S0 S2
              obtain ⟨r0, r1, r2, r3⟩ := hR _ SF
              have HSF := Lib.hid SF
              clear SF
              go_wp2_with fail
              refine (checkRule_any ra rb rc rr _).mono ?_
              rw [HE.out]
              rintro e v9 ⟨rfl, hb⟩
              have HSG := Lib.hid (HSF.out.trans (hb.mono HSF.out.size))
              clear hb r0 r1 r2 r3
              go_wp2_with fail
              go_roundw
              case rel => exact ⟨k + 1, by omega, by go_num, HSG.out⟩
              case measure => simp [intOf]; omega
            · refine wpOp_planS rfl (by rfl) (fun K hK => ?_)
              go_simp
              have S0a := (hBr.alloc hBr.size (.cells #[.int .i64 0, .int .i64 0] 27)).drew
              have bz0 := (Box.new wr #[.int .i64 0, .int .i64 0] 27).drew
              refine hK.out _ _ S0a ?_
              clear hK K
              refine PlanS.call rfl (by rfl) (fun K hK => ?_)
              go_simp
              refine (faces_code ra rb rc rr a n c ts lo hi pr ne 9 9 11 _ (hU _ S0a).2.2.2.2.2.2 (by unfold facesE; rw [HE.out]; rfl)).mono ?_
              rintro e v2 ⟨p, q, rfl, hb⟩
              have S2 := S0a.trans (hb.mono S0a.size)
              have bz := bz0.below hb bz0.lt
              have hzb : (u3.alloc (.cells #[.int .i64 0, .int .i64 0, .int .i64 0, .int .i64 0, .int .i64 950, .int .i64 950, .int .i64 1700, .int .i64 35, .int .i64 950, .int .i64 1300, .int .i64 4001, .int .i64 35, .int .i64 950, .int .i64 1300, .int .i64 1700, .int .i64 101] 24)).heap.size ≤ wr.heap.size := hBr.size
              go_simp
              refine hK.out _ _ S2 ?_
              clear hK K hb
              iterate 3 (refine PlanS.free (v := ?_) rfl (by rfl) (fun W hW => ?_) ?_; rotate_left; (go_simp; with_reducible rfl); simp only [_root_.Go.Act.put, List.setIfInBounds_toArray, List.set_cons_zero, List.set_cons_succ])
              have z0 : v2.cell? ⟨wr.heap.size, 0, none⟩ = some (.int .i64 0) := bz.cell 0
              have z1 : v2.cell? ⟨wr.heap.size, 1, none⟩ = some (.int .i64 0) := bz.cell 1
              have zf0 : v2.frozen? ⟨wr.heap.size, 0, none⟩ = false := bz.free 0
              have zf1 : v2.frozen? ⟨wr.heap.size, 1, none⟩ = false := bz.free 1
              have SF := (S2.setCell (p := ⟨wr.heap.size, 0, none⟩) (by exact hzb) (.int .i64 p)).setCell (p := ⟨wr.heap.size, 1, none⟩) (by exact hzb) (.int .i64 q)
              refine PlanS.call rfl (by rfl) (fun K hK => ?_)
              go_simp
              refine hK.out _ _ SF ?_
              clear hK K z0 z1 zf0 zf1
              (refine PlanS.free (v := ?_) rfl (by rfl) (fun W hW => ?_) ?_; rotate_left; (go_simp; with_reducible rfl); simp only [_root_.Go.Act.put, List.setIfInBounds_toArray, List.set_cons_zero, List.set_cons_succ])
              refine PlanS.end' ?_
              clear S0 S0a S2 bz bz0 hzb
              obtain ⟨r0, r1, r2, r3⟩ := hR _ SF
              have HSF := Lib.hid SF
              clear SF
              go_wp2_with fail
              refine (checkRule_any ra rb rc rr _).mono ?_
              rw [HE.out]
              rintro e v9 ⟨rfl, hb⟩
              have HSG := Lib.hid (HSF.out.trans (hb.mono HSF.out.size))
              clear hb r0 r1 r2 r3
              go_wp2_with fail
              go_roundw
              case rel => exact ⟨k + 1, by omega, by go_num, HSG.out⟩
              case measure => simp [intOf]; omega
          obtain rfl : k = 4 := by omega
          have HX0 := Lib.hid (HU.out _ hBr).1
          clear hBr HU HR
          go_wp2_with fail
          refine (trees_any _).mono ?_
          rintro e x1 ⟨Bt, rfl, hT, hb⟩
          have HX1 := Lib.hid (HX0.out.trans (hb.mono HX0.out.size))
          clear hb
          go_wp2_with fail
          refine (near_code _ 3 3 exT 8 12 3 30 3 12 _ hT (by unfold nearE; rw [ex_check]; rfl)).mono ?_
          rintro e x2 ⟨y1, rfl, hb⟩
          have HX2 := Lib.hid (HX1.out.trans (hb.mono HX1.out.size))
          clear hb hT
          go_wp2_with fail
          refine (trees_any _).mono ?_
          rintro e x3 ⟨Bt, rfl, hT, hb⟩
          have HX3 := Lib.hid (HX2.out.trans (hb.mono HX2.out.size))
          clear hb
          go_wp2_with fail
          refine (girth_code _ 3 3 exT 8 12 3 30 0 201 7 _ hT (by unfold girthE; rw [ex_check]; rfl)).mono ?_
          rintro e x4 ⟨p, q, rfl, hb⟩
          have HX4 := Lib.hid (HX3.out.trans (hb.mono HX3.out.size))
          clear hb hT
          have HXa4 := Lib.hid (HX4.out.alloc HX4.out.size (.cells #[.int .i64 p, .int .i64 q] 27))
          go_wp2_with fail
          refine (rule_any _).mono ?_
          rintro e x5 ⟨rfl, hb⟩
          have HX5 := Lib.hid (HXa4.out.trans (hb.mono HXa4.out.size))
          clear hb
          go_wp2_with fail
          refine (trees_any _).mono ?_
          rintro e x6 ⟨Bt, rfl, hT, hb⟩
          have HX6 := Lib.hid (HX5.out.trans (hb.mono HX5.out.size))
          clear hb
          go_wp2_with fail
          refine (faces_code 950 1300 1700 35 _ 3 3 exT 8 12 3 30 0 (-1) 7 _ hT (by unfold facesE; rw [ex_check]; rfl)).mono ?_
          rintro e x7 ⟨p, q, rfl, hb⟩
          have HX7 := Lib.hid (HX6.out.trans (hb.mono HX6.out.size))
          clear hb hT
          have HXa7 := Lib.hid (HX7.out.alloc HX7.out.size (.cells #[.int .i64 p, .int .i64 q] 27))
          go_wp2_with fail
          refine (rule_any _).mono ?_
          rintro e x8 ⟨rfl, hb⟩
          have HX8 := Lib.hid (HXa7.out.trans (hb.mono HXa7.out.size))
          clear hb
          go_wp2_with fail
          refine (trees_any _).mono ?_
          rintro e x9 ⟨Bt, rfl, hT, hb⟩
          have HX9 := Lib.hid (HX8.out.trans (hb.mono HX8.out.size))
          clear hb
          go_wp2_with fail
          refine (ready_code 950 1300 1700 35 _ 3 3 exT 8 12 3 30 0 4 7 _ hT (by unfold readyE; rw [ex_check]; rfl)).mono ?_
          rintro e x10 ⟨p, q, rfl, hb⟩
          have HX10 := Lib.hid (HX9.out.trans (hb.mono HX9.out.size))
          clear hb hT
          have HXa10 := Lib.hid (HX10.out.alloc HX10.out.size (.cells #[.int .i64 p, .int .i64 q] 27))
          go_wp2_with fail
          refine (trees_any _).mono ?_
          rintro e x11 ⟨Bt, rfl, hT, hb⟩
          have HX11 := Lib.hid (HXa10.out.trans (hb.mono HXa10.out.size))
          clear hb
          go_wp2_with fail
          refine (thin_code _ 3 3 exT 8 12 3 30 100001 7 _ hT (by unfold thinE; rw [ex_check]; rfl)).mono ?_
          rintro e x12 ⟨y2, y3, rfl, hb⟩
          have HX12 := Lib.hid (HX11.out.trans (hb.mono HX11.out.size))
          clear hb hT
          go_wp2_with fail
          refine (trees_any _).mono ?_
          rintro e x13 ⟨Bt, rfl, hT, hb⟩
          have HX13 := Lib.hid (HX12.out.trans (hb.mono HX12.out.size))
          clear hb
          have I1 := ints_new2 x13 1 1
          have hT := hT.below (below_new (.cells #[.int .i64 1, .int .i64 1] 3))
          have HXa13 := Lib.hid (HX13.out.alloc HX13.out.size (.cells #[.int .i64 1, .int .i64 1] 3))
          go_wp2_with fail
          refine (left_code _ _ 3 3 2 2 exT [1, 1] 8 12 3 30 12 _ hT (by simp) max2 I1 (by unfold leftE; rw [ex_check]; rfl)).mono ?_
          rintro e x14 ⟨la, ln, lc, p, q, r, s, rfl, hb⟩
          have HX14 := Lib.hid (HXa13.out.trans (hb.mono HXa13.out.size))
          clear hb hT I1
          have HXa14 := Lib.hid (HX14.out.alloc HX14.out.size (.cells #[.slice la ln lc, .int .i64 p, .int .i64 q, .int .i64 r, .int .i64 s] 29))
          go_wp2_with fail
          refine (trees_any _).mono ?_
          rintro e x15 ⟨Bt, rfl, hT, hb⟩
          have HX15 := Lib.hid (HXa14.out.trans (hb.mono HXa14.out.size))
          clear hb
          go_wp2_with fail
          refine (left_any _ none 3 3 0 0 exT [] 8 12 3 30 _ hT (by simp) (Nat.zero_le _) ⟨rfl, .inl rfl⟩).mono ?_
          rw [show leftE ⟨exT, 8, 12, 3, 30⟩ [] = 0 by unfold leftE; rw [ex_check]; rfl, show leftS ⟨exT, 8, 12, 3, 30⟩ [] = ⟨[], 8, 12, 3, 30⟩ by unfold leftS; rw [if_pos (by unfold leftE; rw [ex_check]; rfl)]; rfl]
          rintro e x16 ⟨ma, mn, mc, rfl, hM, hb⟩
          have HX16 := Lib.hid (HX15.out.trans (hb.mono HX15.out.size))
          obtain rfl : mn = 0 := hM.len
          clear hb hT hM
          dsimp only
          have HXa16 := Lib.hid (HX16.out.alloc HX16.out.size (.cells #[.slice ma 0 mc, .int .i64 8, .int .i64 12, .int .i64 3, .int .i64 30] 29))
          go_wp2_with fail
          refine (trees_any _).mono ?_
          rintro e x17 ⟨Bt, rfl, hT, hb⟩
          have HX17 := Lib.hid (HXa16.out.trans (hb.mono HXa16.out.size))
          clear hb
          go_wp2_with fail
          refine (girth_any _ 3 3 exT 8 12 3 30 0 10 _ hT).mono ?_
          rw [show girthE ⟨exT, 8, 12, 3, 30⟩ 0 10 = 0 by unfold girthE; rw [ex_check]; rfl, show girthR ⟨exT, 8, 12, 3, 30⟩ 0 10 = (950, 1010) by unfold girthR; rw [if_pos (by unfold girthE; rw [ex_check]; rfl)]; decide +kernel]
          rintro e x18 ⟨rfl, hb⟩
          have HX18 := Lib.hid (HX17.out.trans (hb.mono HX17.out.size))
          clear hb hT
          have HXa18 := Lib.hid (HX18.out.alloc HX18.out.size (.cells #[.int .i64 950, .int .i64 1010] 27))
          have bE := Lib.hid (Box.new x18 #[.int .i64 950, .int .i64 1010] 27)
          go_wp2_with fail
          refine (rule_any _).mono ?_
          rintro e x19 ⟨rfl, hb⟩
          have HX19 := Lib.hid (HXa18.out.trans (hb.mono HXa18.out.size))
          have bE := Lib.hid (bE.out.below hb bE.out.lt)
          clear hb
          go_wp2_with fail
          refine (trees_any _).mono ?_
          rintro e x20 ⟨Bt, rfl, hT, hb⟩
          have HX20 := Lib.hid (HX19.out.trans (hb.mono HX19.out.size))
          have bE := Lib.hid (bE.out.below hb bE.out.lt)
          clear hb
          go_wp2_with fail
          refine (faces_any 950 1300 1700 35 _ 3 3 exT 8 12 3 30 1 200 _ hT).mono ?_
          rw [show facesE ⟨950, 1300, 1700, 35⟩ ⟨exT, 8, 12, 3, 30⟩ 1 200 = 0 by unfold facesE; rw [ex_check]; rfl, show facesR ⟨950, 1300, 1700, 35⟩ ⟨exT, 8, 12, 3, 30⟩ 1 200 = (0, 0) by unfold facesR; rw [if_pos (by unfold facesE; rw [ex_check]; rfl)]; decide +kernel]
          rintro e x21 ⟨rfl, hb⟩
          have HX21 := Lib.hid (HX20.out.trans (hb.mono HX20.out.size))
          have bE := Lib.hid (bE.out.below hb bE.out.lt)
          clear hb hT
          have HXa21 := Lib.hid (HX21.out.alloc HX21.out.size (.cells #[.int .i64 0, .int .i64 0] 27))
          have bE := Lib.hid (bE.out.alloc (.cells #[.int .i64 0, .int .i64 0] 27))
          have bF := Lib.hid (Box.new x21 #[.int .i64 0, .int .i64 0] 27)
          go_wp2_with fail
          refine (rule_any _).mono ?_
          rintro e x22 ⟨rfl, hb⟩
          have HX22 := Lib.hid (HXa21.out.trans (hb.mono HXa21.out.size))
          have bE := Lib.hid (bE.out.below hb bE.out.lt)
          have bF := Lib.hid (bF.out.below hb bF.out.lt)
          clear hb
          go_wp2_with fail
          refine (trees_any _).mono ?_
          rintro e x23 ⟨Bt, rfl, hT, hb⟩
          have HX23 := Lib.hid (HX22.out.trans (hb.mono HX22.out.size))
          have bE := Lib.hid (bE.out.below hb bE.out.lt)
          have bF := Lib.hid (bF.out.below hb bF.out.lt)
          clear hb
          go_wp2_with fail
          refine (ready_any 950 1300 1700 35 _ 3 3 exT 8 12 3 30 0 1 _ hT).mono ?_
          rw [show readyE ⟨950, 1300, 1700, 35⟩ ⟨exT, 8, 12, 3, 30⟩ 0 1 = 0 by unfold readyE; rw [ex_check]; rfl, show readyR ⟨950, 1300, 1700, 35⟩ ⟨exT, 8, 12, 3, 30⟩ 0 1 = (4, 10) by unfold readyR; rw [if_pos (by unfold readyE; rw [ex_check]; rfl)]; decide +kernel]
          rintro e x24 ⟨rfl, hb⟩
          have HX24 := Lib.hid (HX23.out.trans (hb.mono HX23.out.size))
          have bE := Lib.hid (bE.out.below hb bE.out.lt)
          have bF := Lib.hid (bF.out.below hb bF.out.lt)
          clear hb hT
          have HXa24 := Lib.hid (HX24.out.alloc HX24.out.size (.cells #[.int .i64 4, .int .i64 10] 27))
          have bE := Lib.hid (bE.out.alloc (.cells #[.int .i64 4, .int .i64 10] 27))
          have bF := Lib.hid (bF.out.alloc (.cells #[.int .i64 4, .int .i64 10] 27))
          have bR := Lib.hid (Box.new x24 #[.int .i64 4, .int .i64 10] 27)
          go_wp2_with fail
          refine (rule_any _).mono ?_
          rintro e x25 ⟨rfl, hb⟩
          have HX25 := Lib.hid (HXa24.out.trans (hb.mono HXa24.out.size))
          have bE := Lib.hid (bE.out.below hb bE.out.lt)
          have bF := Lib.hid (bF.out.below hb bF.out.lt)
          have bR := Lib.hid (bR.out.below hb bR.out.lt)
          clear hb
          go_wp2_with fail
          refine (trees_any _).mono ?_
          rintro e x26 ⟨Bt, rfl, hT, hb⟩
          have HX26 := Lib.hid (HX25.out.trans (hb.mono HX25.out.size))
          have bE := Lib.hid (bE.out.below hb bE.out.lt)
          have bF := Lib.hid (bF.out.below hb bF.out.lt)
          have bR := Lib.hid (bR.out.below hb bR.out.lt)
          clear hb
          go_wp2_with fail
          refine (ready_any 950 1300 1700 35 _ 3 3 exT 8 12 3 30 1 1 _ hT).mono ?_
          rw [show readyE ⟨950, 1300, 1700, 35⟩ ⟨exT, 8, 12, 3, 30⟩ 1 1 = 0 by unfold readyE; rw [ex_check]; rfl, show readyR ⟨950, 1300, 1700, 35⟩ ⟨exT, 8, 12, 3, 30⟩ 1 1 = (201, 201) by unfold readyR; rw [if_pos (by unfold readyE; rw [ex_check]; rfl)]; decide +kernel]
          rintro e x27 ⟨rfl, hb⟩
          have HX27 := Lib.hid (HX26.out.trans (hb.mono HX26.out.size))
          have bE := Lib.hid (bE.out.below hb bE.out.lt)
          have bF := Lib.hid (bF.out.below hb bF.out.lt)
          have bR := Lib.hid (bR.out.below hb bR.out.lt)
          clear hb hT
          have HXa27 := Lib.hid (HX27.out.alloc HX27.out.size (.cells #[.int .i64 201, .int .i64 201] 27))
          have bE := Lib.hid (bE.out.alloc (.cells #[.int .i64 201, .int .i64 201] 27))
          have bF := Lib.hid (bF.out.alloc (.cells #[.int .i64 201, .int .i64 201] 27))
          have bR := Lib.hid (bR.out.alloc (.cells #[.int .i64 201, .int .i64 201] 27))
          have bS := Lib.hid (Box.new x27 #[.int .i64 201, .int .i64 201] 27)
          go_wp2_with fail
          refine (trees_any _).mono ?_
          rintro e x28 ⟨Bt, rfl, hT, hb⟩
          have HX28 := Lib.hid (HXa27.out.trans (hb.mono HXa27.out.size))
          have bE := Lib.hid (bE.out.below hb bE.out.lt)
          have bF := Lib.hid (bF.out.below hb bF.out.lt)
          have bR := Lib.hid (bR.out.below hb bR.out.lt)
          have bS := Lib.hid (bS.out.below hb bS.out.lt)
          clear hb
          go_wp2_with fail
          refine (thin_any _ 3 3 exT 8 12 3 30 70 _ hT).mono ?_
          rw [show thinE ⟨exT, 8, 12, 3, 30⟩ 70 = 0 by unfold thinE; rw [ex_check]; rfl, show thinR ⟨exT, 8, 12, 3, 30⟩ 70 = ([1], 1000) by unfold thinR; rw [if_pos (by unfold thinE; rw [ex_check]; rfl)]; decide +kernel]
          rintro e x29 ⟨tv, rfl, hrow, hb⟩
          have HX29 := Lib.hid (HX28.out.trans (hb.mono HX28.out.size))
          have bE := Lib.hid (bE.out.below hb bE.out.lt)
          have bF := Lib.hid (bF.out.below hb bF.out.lt)
          have bR := Lib.hid (bR.out.below hb bR.out.lt)
          have bS := Lib.hid (bS.out.below hb bS.out.lt)
          obtain ⟨ta, tc, rfl⟩ := row_form hrow
          have It := Lib.hid (ints_of_row (l := [1]) hrow rfl)
          clear hb hT hrow
          dsimp only [List.length_cons, List.length_nil]
          go_wp2_with fail
          have HY : Hid (∀ W, Below x29.heap.size x29 W → Below w.heap.size w W ∧ Box W x18.heap.size #[.int .i64 950, .int .i64 1010] 27 ∧ Box W x21.heap.size #[.int .i64 0, .int .i64 0] 27 ∧ Box W x24.heap.size #[.int .i64 4, .int .i64 10] 27 ∧ Box W x27.heap.size #[.int .i64 201, .int .i64 201] 27 ∧ IntsAt W ta 1 [1]) := Lib.hid fun W h => ⟨HX29.out.trans (h.mono HX29.out.size), bE.out.below h bE.out.lt, bF.out.below h bF.out.lt, bR.out.below h bR.out.lt, bS.out.below h bS.out.lt, It.out.below h⟩
          clear HX29 bE bF bR bS It
          have hS0 : Below x29.heap.size x29 x29.drew := (Below.refl _ _).drew
          refine region_seq (fun W => Below x29.heap.size x29 W) [(0, true), (1, true), (2, true), (3, true), (4, false), (5, true), (6, true), (7, true), (8, true), (9, true), (10, true), (11, true), (12, true), (13, false), (14, true), (15, true), (16, true), (17, true), (18, true), (19, true), (20, true), (21, true), (22, false), (23, true), (24, true), (25, true), (26, true), (27, true), (28, true), (29, true), (30, true), (31, false), (32, true), (33, true), (34, true), (35, true), (36, true), (37, true), (38, true), (39, true), (40, false), (41, false), (42, true), (43, true), (44, true), (45, true), (46, true), (47, true)]
            (by kernel_rfl) (by kernel_rfl) (by kernel_rfl) (by simp) (fun _ _ _ _ h => h) hS0 ?_
          iterate 3 (refine SeqW.take (v := ?_) rfl (by rfl) (fun W hW => ?_) ?_; rotate_left; (go_simp; with_reducible rfl); simp only [_root_.Go.Act.put, List.setIfInBounds_toArray, List.set_cons_zero, List.set_cons_succ])
          (refine SeqW.take (v := ?_) rfl (by rfl) (fun W hW => ?_) ?_; rotate_left; (have q := HY.out W hW; have b0 : W.cell? ⟨x18.heap.size, 0, none⟩ = some (.int .i64 950) := q.2.1.cell 0; have b1 : W.cell? ⟨x18.heap.size, 1, none⟩ = some (.int .i64 1010) := q.2.1.cell 1; clear q hW; go_simp; with_reducible rfl); simp only [_root_.Go.Act.put, List.setIfInBounds_toArray, List.set_cons_zero, List.set_cons_succ])
          refine SeqW.call rfl (by rfl) (fun K hK => ?_)
          go_simp
          refine (to_any 950 1010 _).mono ?_
          rintro e v1 ⟨rfl, hb⟩
          have hS1 := hS0.trans (hb.mono hS0.size)
          go_simp
          refine hK.out _ _ hS1 ?_
          clear hK K hb hS0
          iterate 7 (refine SeqW.take (v := ?_) rfl (by rfl) (fun W hW => ?_) ?_; rotate_left; (go_simp; with_reducible rfl); simp only [_root_.Go.Act.put, List.setIfInBounds_toArray, List.set_cons_zero, List.set_cons_succ])
          (refine SeqW.take (v := ?_) rfl (by rfl) (fun W hW => ?_) ?_; rotate_left; (have q := HY.out W hW; have b0 : W.cell? ⟨x21.heap.size, 0, none⟩ = some (.int .i64 0) := q.2.2.1.cell 0; have b1 : W.cell? ⟨x21.heap.size, 1, none⟩ = some (.int .i64 0) := q.2.2.1.cell 1; clear q hW; go_simp; with_reducible rfl); simp only [_root_.Go.Act.put, List.setIfInBounds_toArray, List.set_cons_zero, List.set_cons_succ])
          refine SeqW.call rfl (by rfl) (fun K hK => ?_)
          go_simp
          refine (to_any 0 0 _).mono ?_
          rintro e v2 ⟨rfl, hb⟩
          have hS2 := hS1.trans (hb.mono hS1.size)
          go_simp
          refine hK.out _ _ hS2 ?_
          clear hK K hb hS1
          iterate 7 (refine SeqW.take (v := ?_) rfl (by rfl) (fun W hW => ?_) ?_; rotate_left; (go_simp; with_reducible rfl); simp only [_root_.Go.Act.put, List.setIfInBounds_toArray, List.set_cons_zero, List.set_cons_succ])
          (refine SeqW.take (v := ?_) rfl (by rfl) (fun W hW => ?_) ?_; rotate_left; (have q := HY.out W hW; have b0 : W.cell? ⟨x24.heap.size, 0, none⟩ = some (.int .i64 4) := q.2.2.2.1.cell 0; have b1 : W.cell? ⟨x24.heap.size, 1, none⟩ = some (.int .i64 10) := q.2.2.2.1.cell 1; clear q hW; go_simp; with_reducible rfl); simp only [_root_.Go.Act.put, List.setIfInBounds_toArray, List.set_cons_zero, List.set_cons_succ])
          refine SeqW.call rfl (by rfl) (fun K hK => ?_)
          go_simp
          refine (to_any 4 10 _).mono ?_
          rintro e v3 ⟨rfl, hb⟩
          have hS3 := hS2.trans (hb.mono hS2.size)
          go_simp
          refine hK.out _ _ hS3 ?_
          clear hK K hb hS2
          iterate 7 (refine SeqW.take (v := ?_) rfl (by rfl) (fun W hW => ?_) ?_; rotate_left; (go_simp; with_reducible rfl); simp only [_root_.Go.Act.put, List.setIfInBounds_toArray, List.set_cons_zero, List.set_cons_succ])
          (refine SeqW.take (v := ?_) rfl (by rfl) (fun W hW => ?_) ?_; rotate_left; (have q := HY.out W hW; have b0 : W.cell? ⟨x27.heap.size, 0, none⟩ = some (.int .i64 201) := q.2.2.2.2.1.cell 0; have b1 : W.cell? ⟨x27.heap.size, 1, none⟩ = some (.int .i64 201) := q.2.2.2.2.1.cell 1; clear q hW; go_simp; with_reducible rfl); simp only [_root_.Go.Act.put, List.setIfInBounds_toArray, List.set_cons_zero, List.set_cons_succ])
          refine SeqW.call rfl (by rfl) (fun K hK => ?_)
          go_simp
          refine (to_any 201 201 _).mono ?_
          rintro e v4 ⟨rfl, hb⟩
          have hS4 := hS3.trans (hb.mono hS3.size)
          go_simp
          refine hK.out _ _ hS4 ?_
          clear hK K hb hS3
          iterate 8 (refine SeqW.take (v := ?_) rfl (by rfl) (fun W hW => ?_) ?_; rotate_left; (go_simp; with_reducible rfl); simp only [_root_.Go.Act.put, List.setIfInBounds_toArray, List.set_cons_zero, List.set_cons_succ])
          refine SeqW.call rfl (by rfl) (fun K hK => ?_)
          go_simp
          have hS5 := hS4.alloc hS4.size (.cells #[.int .i64 1] 3)
          refine hK.out _ _ hS5 ?_
          clear hK K
          refine SeqW.call rfl (by rfl) (fun K hK => ?_)
          go_simp
          refine (same_any ta (some ⟨_, 0, none⟩) 1 tc 1 1 [1] [1] _ (HY.out _ hS5).2.2.2.2.2 (ints_new1 _ 1) max1 max1).mono ?_
          rintro e v6 ⟨rfl, hb⟩
          have hS6 := hS5.trans (hb.mono hS5.size)
          go_simp
          refine hK.out _ _ hS6 ?_
          clear hK K hb hS4 hS5
          iterate 6 (refine SeqW.take (v := ?_) rfl (by rfl) (fun W hW => ?_) ?_; rotate_left; (go_simp; with_reducible rfl); simp only [_root_.Go.Act.put, List.setIfInBounds_toArray, List.set_cons_zero, List.set_cons_succ])
          refine SeqW.done ?_
          have HZ6 := Lib.hid (HY.out _ hS6).1
          clear hS6 HY
          go_wp2_with fail
          refine (told_any _ (HC.out _ HZ6.out)).mono ?_
          rintro e y1 ⟨rfl, hb⟩
          have HZ7 := Lib.hid (HZ6.out.trans (hb.mono HZ6.out.size))
          clear hb
          go_wp2_with fail
          refine (HWk.out _ HZ7.out).mono ?_
          rintro e y2 ⟨rfl, hb⟩
          have HZ8 := Lib.hid (HZ7.out.trans (hb.mono HZ7.out.size))
          clear hb
          go_wp2_with fail
          go_ret
          exact ⟨rfl, HZ8.out⟩
end Go.Proofs.YtpkjjiieglebbaaDoor
