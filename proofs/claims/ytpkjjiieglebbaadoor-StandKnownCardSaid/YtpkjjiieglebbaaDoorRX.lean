/- Contract of package stand's readStand where the text has another form, and of Parse. Condition: a text of at most 65536 bytes. (Written by wip/gen_rx.py.) -/
import Derived.Test.YtpkjjiieglebbaaDoorPA
namespace Go.Proofs.YtpkjjiieglebbaaDoor
open Go Go.RowKit
set_option maxRecDepth 100000 in
set_option maxHeartbeats 4000000 in
theorem readStand_er1 {s : ByteArray} (w : World) (hs : s.size ≤ 65536)  (e0 : expL [115, 116, 97, 110, 100, 32, 103, 114, 111, 119, 32] s.data.toList = none) :
    Calls Tryd.prog 87 #[.string s] w fun e w' => e = errV ∧ Below w.heap.size w w' := by
  have z0 := hs
  have y0 : s.data.toList = s.data.toList := rfl
  have x0 := Boxed.new (w.alloc (.cells #[.slice none 0 0, .int .i64 0, .int .i64 0, .int .i64 0, .int .i64 0] 29)) 135 (.string s)
  rw [World.size_alloc] at x0
  have X0 := Lib.hid (x0.alloc (.cells #[.slice none 0 0, .int .i64 0, .int .i64 0, .int .i64 0, .int .i64 0] 29))
  have k0 := Box.new ((w.alloc (.cells #[.slice none 0 0, .int .i64 0, .int .i64 0, .int .i64 0, .int .i64 0] 29)).alloc (.cells #[.string s] 135)) #[.slice none 0 0, .int .i64 0, .int .i64 0, .int .i64 0, .int .i64 0] 29
  rw [World.size_alloc, World.size_alloc] at k0
  have K0 := Lib.hid k0
  have D0 := Lib.hid (((Box.new w #[.slice none 0 0, .int .i64 0, .int .i64 0, .int .i64 0, .int .i64 0] 29).alloc (.cells #[.string s] 135)).alloc (.cells #[.slice none 0 0, .int .i64 0, .int .i64 0, .int .i64 0, .int .i64 0] 29))
  have B0 := Lib.hid ((((Below.refl w.heap.size w).alloc (Nat.le_refl _) (.cells #[.slice none 0 0, .int .i64 0, .int .i64 0, .int .i64 0, .int .i64 0] 29)).alloc (by simp) (.cells #[.string s] 135)).alloc (by simp; omega) (.cells #[.slice none 0 0, .int .i64 0, .int .i64 0, .int .i64 0, .int .i64 0] 29))
  clear x0 k0
  have E1 := Lib.hid e0
  clear e0 
  have hmf : ∀ (fn : Fn) (first cap : Array Value) (W : World), (Instr.makeFunc fn first cap).run Tryd.prog W = .ok (.func fn first cap) W := fun _ _ _ _ => rfl
  go_enter Tryd.func87, Tryd.ntmps87
  go_wp2_with (first
    | (go_at_call 102; refine (expect_er (p := ⟨#[115, 116, 97, 110, 100, 32, 103, 114, 111, 119, 32]⟩) (w.heap.size + 1) _ X0.out (by rw [y0]; exact E1.out)).mono ?_; rintro e w1 ⟨rfl, r⟩; have RE := Lib.hid (B0.out.trans (r.mono (by omega))); clear r; unfold errV)
)
  exact ⟨rfl, rfl, RE.out⟩
set_option maxRecDepth 100000 in
set_option maxHeartbeats 4000000 in
theorem readStand_er2 {s : ByteArray} {L1 : List UInt8} (w : World) (hs : s.size ≤ 65536) (h1 : expL [115, 116, 97, 110, 100, 32, 103, 114, 111, 119, 32] s.data.toList = some L1) (e0 : spanL L1 = none) :
    Calls Tryd.prog 87 #[.string s] w fun e w' => e = errV ∧ Below w.heap.size w w' := by
  have z0 := hs
  have y0 : s.data.toList = s.data.toList := rfl
  have x0 := Boxed.new (w.alloc (.cells #[.slice none 0 0, .int .i64 0, .int .i64 0, .int .i64 0, .int .i64 0] 29)) 135 (.string s)
  rw [World.size_alloc] at x0
  have X0 := Lib.hid (x0.alloc (.cells #[.slice none 0 0, .int .i64 0, .int .i64 0, .int .i64 0, .int .i64 0] 29))
  have k0 := Box.new ((w.alloc (.cells #[.slice none 0 0, .int .i64 0, .int .i64 0, .int .i64 0, .int .i64 0] 29)).alloc (.cells #[.string s] 135)) #[.slice none 0 0, .int .i64 0, .int .i64 0, .int .i64 0, .int .i64 0] 29
  rw [World.size_alloc, World.size_alloc] at k0
  have K0 := Lib.hid k0
  have D0 := Lib.hid (((Box.new w #[.slice none 0 0, .int .i64 0, .int .i64 0, .int .i64 0, .int .i64 0] 29).alloc (.cells #[.string s] 135)).alloc (.cells #[.slice none 0 0, .int .i64 0, .int .i64 0, .int .i64 0, .int .i64 0] 29))
  have B0 := Lib.hid ((((Below.refl w.heap.size w).alloc (Nat.le_refl _) (.cells #[.slice none 0 0, .int .i64 0, .int .i64 0, .int .i64 0, .int .i64 0] 29)).alloc (by simp) (.cells #[.string s] 135)).alloc (by simp; omega) (.cells #[.slice none 0 0, .int .i64 0, .int .i64 0, .int .i64 0, .int .i64 0] 29))
  clear x0 k0
  have H1 := Lib.hid h1
  have E2 := Lib.hid e0
  clear e0 h1
  have hmf : ∀ (fn : Fn) (first cap : Array Value) (W : World), (Instr.makeFunc fn first cap).run Tryd.prog W = .ok (.func fn first cap) W := fun _ _ _ _ => rfl
  go_enter Tryd.func87, Tryd.ntmps87
  go_wp2_with (first
    | (go_at_call 104; refine (span_er (w.heap.size + 1) _ z1 X1.out (by rw [y1]; exact E2.out)).mono ?_; rintro e w2 ⟨rfl, r⟩; have RE := Lib.hid (B1.out.trans (r.mono (by omega))); clear r; unfold errV)
    | (go_at_call 102; refine (expect_rd (p := ⟨#[115, 116, 97, 110, 100, 32, 103, 114, 111, 119, 32]⟩) (l := L1) (w.heap.size + 1) _ z0 X0.out (by rw [y0]; exact H1.out)).mono ?_; rintro e w1 ⟨rfl, r⟩; obtain ⟨s1, x1, y1, z1⟩ := r.box; have kb := r.old _ K0.out.lt (by omega); have db := r.old _ D0.out.lt (by omega); have k1 : Box w1 (w.heap.size + 1 + 1) #[.slice none 0 0, .int .i64 0, .int .i64 0, .int .i64 0, .int .i64 0] 29 := kb.trans K0.out; have d1 : Box w1 w.heap.size #[.slice none 0 0, .int .i64 0, .int .i64 0, .int .i64 0, .int .i64 0] 29 := db.trans D0.out; have r1 := B0.out.trans (r.bel.mono (by omega)); have B1 := Lib.hid r1; have X1 := Lib.hid x1; have K1 := Lib.hid k1; have D1 := Lib.hid d1; clear r r1 k1 d1 kb db x1))
  exact ⟨rfl, rfl, RE.out⟩
set_option maxRecDepth 100000 in
set_option maxHeartbeats 4000000 in
theorem readStand_er3 {s : ByteArray} {lo hi : Int} {L1 : List UInt8} {L2 : List UInt8} (w : World) (hs : s.size ≤ 65536) (h1 : expL [115, 116, 97, 110, 100, 32, 103, 114, 111, 119, 32] s.data.toList = some L1) (h2 : spanL L1 = some ((lo, hi), L2)) (e0 : expL [32, 112, 114, 101, 115, 115, 32] L2 = none) :
    Calls Tryd.prog 87 #[.string s] w fun e w' => e = errV ∧ Below w.heap.size w w' := by
  have z0 := hs
  have y0 : s.data.toList = s.data.toList := rfl
  have x0 := Boxed.new (w.alloc (.cells #[.slice none 0 0, .int .i64 0, .int .i64 0, .int .i64 0, .int .i64 0] 29)) 135 (.string s)
  rw [World.size_alloc] at x0
  have X0 := Lib.hid (x0.alloc (.cells #[.slice none 0 0, .int .i64 0, .int .i64 0, .int .i64 0, .int .i64 0] 29))
  have k0 := Box.new ((w.alloc (.cells #[.slice none 0 0, .int .i64 0, .int .i64 0, .int .i64 0, .int .i64 0] 29)).alloc (.cells #[.string s] 135)) #[.slice none 0 0, .int .i64 0, .int .i64 0, .int .i64 0, .int .i64 0] 29
  rw [World.size_alloc, World.size_alloc] at k0
  have K0 := Lib.hid k0
  have D0 := Lib.hid (((Box.new w #[.slice none 0 0, .int .i64 0, .int .i64 0, .int .i64 0, .int .i64 0] 29).alloc (.cells #[.string s] 135)).alloc (.cells #[.slice none 0 0, .int .i64 0, .int .i64 0, .int .i64 0, .int .i64 0] 29))
  have B0 := Lib.hid ((((Below.refl w.heap.size w).alloc (Nat.le_refl _) (.cells #[.slice none 0 0, .int .i64 0, .int .i64 0, .int .i64 0, .int .i64 0] 29)).alloc (by simp) (.cells #[.string s] 135)).alloc (by simp; omega) (.cells #[.slice none 0 0, .int .i64 0, .int .i64 0, .int .i64 0, .int .i64 0] 29))
  clear x0 k0
  have H1 := Lib.hid h1
  have H2 := Lib.hid h2
  have E3 := Lib.hid e0
  clear e0 h1 h2
  have hmf : ∀ (fn : Fn) (first cap : Array Value) (W : World), (Instr.makeFunc fn first cap).run Tryd.prog W = .ok (.func fn first cap) W := fun _ _ _ _ => rfl
  go_enter Tryd.func87, Tryd.ntmps87
  go_wp2_with (first
    | (go_at_call 102; refine (expect_er (p := ⟨#[32, 112, 114, 101, 115, 115, 32]⟩) (w.heap.size + 1) _ X2.out (by rw [y2]; exact E3.out)).mono ?_; rintro e w3 ⟨rfl, r⟩; have RE := Lib.hid (B2.out.trans (r.mono (by omega))); clear r; unfold errV)
    | (go_at_call 104; refine (span_rd (w.heap.size + 1) _ z1 X1.out (by rw [y1]; exact H2.out)).mono ?_; rintro e w2 ⟨rfl, r⟩; obtain ⟨s2, x2, y2, z2⟩ := r.box; have kb := r.old _ K1.out.lt (by omega); have db := r.old _ D1.out.lt (by omega); have k1 : Box w2 (w.heap.size + 1 + 1) #[.slice none 0 0, .int .i64 0, .int .i64 0, .int .i64 0, .int .i64 0] 29 := kb.trans K1.out; have d1 : Box w2 w.heap.size #[.slice none 0 0, .int .i64 0, .int .i64 0, .int .i64 0, .int .i64 0] 29 := db.trans D1.out; have r1 := B1.out.trans (r.bel.mono (by omega)); have c1 : w2.cell? ⟨(w.heap.size + 1 + 1), 1, none⟩ = some (.int .i64 0) := k1.cell 1; have u1 : w2.frozen? ⟨(w.heap.size + 1 + 1), 1, none⟩ = false := k1.free 1; have c2 : w2.cell? ⟨(w.heap.size + 1 + 1), 2, none⟩ = some (.int .i64 0) := k1.cell 2; have u2 : w2.frozen? ⟨(w.heap.size + 1 + 1), 2, none⟩ = false := k1.free 2; have k2 := ((k1.set 1 (.int .i64 lo)).set 2 (.int .i64 hi)); simp at k2; have B2 := Lib.hid ((r1.setCell (p := ⟨(w.heap.size + 1 + 1), 1, none⟩) (by dsimp only; omega) (.int .i64 lo)).setCell (p := ⟨(w.heap.size + 1 + 1), 2, none⟩) (by dsimp only; omega) (.int .i64 hi)); have X2 := Lib.hid (boxed_off (boxed_off x2 (show (w.heap.size + 1) ≠ (w.heap.size + 1 + 1) by omega) 1 (.int .i64 lo)) (show (w.heap.size + 1) ≠ (w.heap.size + 1 + 1) by omega) 2 (.int .i64 hi)); have K2 := Lib.hid k2; have D2 := Lib.hid ((d1.other (p := ⟨(w.heap.size + 1 + 1), 1, none⟩) (by dsimp only; omega) (.int .i64 lo)).other (p := ⟨(w.heap.size + 1 + 1), 2, none⟩) (by dsimp only; omega) (.int .i64 hi)); clear r r1 k1 k2 d1 kb db x2)
    | (go_at_call 102; refine (expect_rd (p := ⟨#[115, 116, 97, 110, 100, 32, 103, 114, 111, 119, 32]⟩) (l := L1) (w.heap.size + 1) _ z0 X0.out (by rw [y0]; exact H1.out)).mono ?_; rintro e w1 ⟨rfl, r⟩; obtain ⟨s1, x1, y1, z1⟩ := r.box; have kb := r.old _ K0.out.lt (by omega); have db := r.old _ D0.out.lt (by omega); have k1 : Box w1 (w.heap.size + 1 + 1) #[.slice none 0 0, .int .i64 0, .int .i64 0, .int .i64 0, .int .i64 0] 29 := kb.trans K0.out; have d1 : Box w1 w.heap.size #[.slice none 0 0, .int .i64 0, .int .i64 0, .int .i64 0, .int .i64 0] 29 := db.trans D0.out; have r1 := B0.out.trans (r.bel.mono (by omega)); have B1 := Lib.hid r1; have X1 := Lib.hid x1; have K1 := Lib.hid k1; have D1 := Lib.hid d1; clear r r1 k1 d1 kb db x1))
  exact ⟨rfl, rfl, RE.out⟩
set_option maxRecDepth 100000 in
set_option maxHeartbeats 4000000 in
theorem readStand_er4 {s : ByteArray} {lo hi : Int} {L1 : List UInt8} {L2 : List UInt8} {L3 : List UInt8} (w : World) (hs : s.size ≤ 65536) (h1 : expL [115, 116, 97, 110, 100, 32, 103, 114, 111, 119, 32] s.data.toList = some L1) (h2 : spanL L1 = some ((lo, hi), L2)) (h3 : expL [32, 112, 114, 101, 115, 115, 32] L2 = some L3) (e0 : numL L3 = none) :
    Calls Tryd.prog 87 #[.string s] w fun e w' => e = errV ∧ Below w.heap.size w w' := by
  have z0 := hs
  have y0 : s.data.toList = s.data.toList := rfl
  have x0 := Boxed.new (w.alloc (.cells #[.slice none 0 0, .int .i64 0, .int .i64 0, .int .i64 0, .int .i64 0] 29)) 135 (.string s)
  rw [World.size_alloc] at x0
  have X0 := Lib.hid (x0.alloc (.cells #[.slice none 0 0, .int .i64 0, .int .i64 0, .int .i64 0, .int .i64 0] 29))
  have k0 := Box.new ((w.alloc (.cells #[.slice none 0 0, .int .i64 0, .int .i64 0, .int .i64 0, .int .i64 0] 29)).alloc (.cells #[.string s] 135)) #[.slice none 0 0, .int .i64 0, .int .i64 0, .int .i64 0, .int .i64 0] 29
  rw [World.size_alloc, World.size_alloc] at k0
  have K0 := Lib.hid k0
  have D0 := Lib.hid (((Box.new w #[.slice none 0 0, .int .i64 0, .int .i64 0, .int .i64 0, .int .i64 0] 29).alloc (.cells #[.string s] 135)).alloc (.cells #[.slice none 0 0, .int .i64 0, .int .i64 0, .int .i64 0, .int .i64 0] 29))
  have B0 := Lib.hid ((((Below.refl w.heap.size w).alloc (Nat.le_refl _) (.cells #[.slice none 0 0, .int .i64 0, .int .i64 0, .int .i64 0, .int .i64 0] 29)).alloc (by simp) (.cells #[.string s] 135)).alloc (by simp; omega) (.cells #[.slice none 0 0, .int .i64 0, .int .i64 0, .int .i64 0, .int .i64 0] 29))
  clear x0 k0
  have H1 := Lib.hid h1
  have H2 := Lib.hid h2
  have H3 := Lib.hid h3
  have E4 := Lib.hid e0
  clear e0 h1 h2 h3
  have hmf : ∀ (fn : Fn) (first cap : Array Value) (W : World), (Instr.makeFunc fn first cap).run Tryd.prog W = .ok (.func fn first cap) W := fun _ _ _ _ => rfl
  go_enter Tryd.func87, Tryd.ntmps87
  go_wp2_with (first
    | (go_at_call 103; refine (number_er (w.heap.size + 1) _ z3 X3.out (by rw [y3]; exact E4.out)).mono ?_; rintro e w4 ⟨rfl, r⟩; have RE := Lib.hid (B3.out.trans (r.mono (by omega))); clear r; unfold errV)
    | (go_at_call 102; refine (expect_rd (p := ⟨#[32, 112, 114, 101, 115, 115, 32]⟩) (l := L3) (w.heap.size + 1) _ z2 X2.out (by rw [y2]; exact H3.out)).mono ?_; rintro e w3 ⟨rfl, r⟩; obtain ⟨s3, x3, y3, z3⟩ := r.box; have kb := r.old _ K2.out.lt (by omega); have db := r.old _ D2.out.lt (by omega); have k1 : Box w3 (w.heap.size + 1 + 1) #[.slice none 0 0, .int .i64 lo, .int .i64 hi, .int .i64 0, .int .i64 0] 29 := kb.trans K2.out; have d1 : Box w3 w.heap.size #[.slice none 0 0, .int .i64 0, .int .i64 0, .int .i64 0, .int .i64 0] 29 := db.trans D2.out; have r1 := B2.out.trans (r.bel.mono (by omega)); have B3 := Lib.hid r1; have X3 := Lib.hid x3; have K3 := Lib.hid k1; have D3 := Lib.hid d1; clear r r1 k1 d1 kb db x3)
    | (go_at_call 104; refine (span_rd (w.heap.size + 1) _ z1 X1.out (by rw [y1]; exact H2.out)).mono ?_; rintro e w2 ⟨rfl, r⟩; obtain ⟨s2, x2, y2, z2⟩ := r.box; have kb := r.old _ K1.out.lt (by omega); have db := r.old _ D1.out.lt (by omega); have k1 : Box w2 (w.heap.size + 1 + 1) #[.slice none 0 0, .int .i64 0, .int .i64 0, .int .i64 0, .int .i64 0] 29 := kb.trans K1.out; have d1 : Box w2 w.heap.size #[.slice none 0 0, .int .i64 0, .int .i64 0, .int .i64 0, .int .i64 0] 29 := db.trans D1.out; have r1 := B1.out.trans (r.bel.mono (by omega)); have c1 : w2.cell? ⟨(w.heap.size + 1 + 1), 1, none⟩ = some (.int .i64 0) := k1.cell 1; have u1 : w2.frozen? ⟨(w.heap.size + 1 + 1), 1, none⟩ = false := k1.free 1; have c2 : w2.cell? ⟨(w.heap.size + 1 + 1), 2, none⟩ = some (.int .i64 0) := k1.cell 2; have u2 : w2.frozen? ⟨(w.heap.size + 1 + 1), 2, none⟩ = false := k1.free 2; have k2 := ((k1.set 1 (.int .i64 lo)).set 2 (.int .i64 hi)); simp at k2; have B2 := Lib.hid ((r1.setCell (p := ⟨(w.heap.size + 1 + 1), 1, none⟩) (by dsimp only; omega) (.int .i64 lo)).setCell (p := ⟨(w.heap.size + 1 + 1), 2, none⟩) (by dsimp only; omega) (.int .i64 hi)); have X2 := Lib.hid (boxed_off (boxed_off x2 (show (w.heap.size + 1) ≠ (w.heap.size + 1 + 1) by omega) 1 (.int .i64 lo)) (show (w.heap.size + 1) ≠ (w.heap.size + 1 + 1) by omega) 2 (.int .i64 hi)); have K2 := Lib.hid k2; have D2 := Lib.hid ((d1.other (p := ⟨(w.heap.size + 1 + 1), 1, none⟩) (by dsimp only; omega) (.int .i64 lo)).other (p := ⟨(w.heap.size + 1 + 1), 2, none⟩) (by dsimp only; omega) (.int .i64 hi)); clear r r1 k1 k2 d1 kb db x2)
    | (go_at_call 102; refine (expect_rd (p := ⟨#[115, 116, 97, 110, 100, 32, 103, 114, 111, 119, 32]⟩) (l := L1) (w.heap.size + 1) _ z0 X0.out (by rw [y0]; exact H1.out)).mono ?_; rintro e w1 ⟨rfl, r⟩; obtain ⟨s1, x1, y1, z1⟩ := r.box; have kb := r.old _ K0.out.lt (by omega); have db := r.old _ D0.out.lt (by omega); have k1 : Box w1 (w.heap.size + 1 + 1) #[.slice none 0 0, .int .i64 0, .int .i64 0, .int .i64 0, .int .i64 0] 29 := kb.trans K0.out; have d1 : Box w1 w.heap.size #[.slice none 0 0, .int .i64 0, .int .i64 0, .int .i64 0, .int .i64 0] 29 := db.trans D0.out; have r1 := B0.out.trans (r.bel.mono (by omega)); have B1 := Lib.hid r1; have X1 := Lib.hid x1; have K1 := Lib.hid k1; have D1 := Lib.hid d1; clear r r1 k1 d1 kb db x1))
  exact ⟨rfl, rfl, RE.out⟩
set_option maxRecDepth 100000 in
set_option maxHeartbeats 4000000 in
theorem readStand_er5 {s : ByteArray} {lo hi : Int} {pr : Int} {L1 : List UInt8} {L2 : List UInt8} {L3 : List UInt8} {L4 : List UInt8} (w : World) (hs : s.size ≤ 65536) (h1 : expL [115, 116, 97, 110, 100, 32, 103, 114, 111, 119, 32] s.data.toList = some L1) (h2 : spanL L1 = some ((lo, hi), L2)) (h3 : expL [32, 112, 114, 101, 115, 115, 32] L2 = some L3) (h4 : numL L3 = some (pr, L4)) (e0 : expL [32, 110, 101, 97, 114, 32] L4 = none) :
    Calls Tryd.prog 87 #[.string s] w fun e w' => e = errV ∧ Below w.heap.size w w' := by
  have z0 := hs
  have y0 : s.data.toList = s.data.toList := rfl
  have x0 := Boxed.new (w.alloc (.cells #[.slice none 0 0, .int .i64 0, .int .i64 0, .int .i64 0, .int .i64 0] 29)) 135 (.string s)
  rw [World.size_alloc] at x0
  have X0 := Lib.hid (x0.alloc (.cells #[.slice none 0 0, .int .i64 0, .int .i64 0, .int .i64 0, .int .i64 0] 29))
  have k0 := Box.new ((w.alloc (.cells #[.slice none 0 0, .int .i64 0, .int .i64 0, .int .i64 0, .int .i64 0] 29)).alloc (.cells #[.string s] 135)) #[.slice none 0 0, .int .i64 0, .int .i64 0, .int .i64 0, .int .i64 0] 29
  rw [World.size_alloc, World.size_alloc] at k0
  have K0 := Lib.hid k0
  have D0 := Lib.hid (((Box.new w #[.slice none 0 0, .int .i64 0, .int .i64 0, .int .i64 0, .int .i64 0] 29).alloc (.cells #[.string s] 135)).alloc (.cells #[.slice none 0 0, .int .i64 0, .int .i64 0, .int .i64 0, .int .i64 0] 29))
  have B0 := Lib.hid ((((Below.refl w.heap.size w).alloc (Nat.le_refl _) (.cells #[.slice none 0 0, .int .i64 0, .int .i64 0, .int .i64 0, .int .i64 0] 29)).alloc (by simp) (.cells #[.string s] 135)).alloc (by simp; omega) (.cells #[.slice none 0 0, .int .i64 0, .int .i64 0, .int .i64 0, .int .i64 0] 29))
  clear x0 k0
  have H1 := Lib.hid h1
  have H2 := Lib.hid h2
  have H3 := Lib.hid h3
  have H4 := Lib.hid h4
  have E5 := Lib.hid e0
  clear e0 h1 h2 h3 h4
  have hmf : ∀ (fn : Fn) (first cap : Array Value) (W : World), (Instr.makeFunc fn first cap).run Tryd.prog W = .ok (.func fn first cap) W := fun _ _ _ _ => rfl
  go_enter Tryd.func87, Tryd.ntmps87
  go_wp2_with (first
    | (go_at_call 102; refine (expect_er (p := ⟨#[32, 110, 101, 97, 114, 32]⟩) (w.heap.size + 1) _ X4.out (by rw [y4]; exact E5.out)).mono ?_; rintro e w5 ⟨rfl, r⟩; have RE := Lib.hid (B4.out.trans (r.mono (by omega))); clear r; unfold errV)
    | (go_at_call 103; refine (number_rd (w.heap.size + 1) _ z3 X3.out (by rw [y3]; exact H4.out)).mono ?_; rintro e w4 ⟨rfl, r⟩; obtain ⟨s4, x4, y4, z4⟩ := r.box; have kb := r.old _ K3.out.lt (by omega); have db := r.old _ D3.out.lt (by omega); have k1 : Box w4 (w.heap.size + 1 + 1) #[.slice none 0 0, .int .i64 lo, .int .i64 hi, .int .i64 0, .int .i64 0] 29 := kb.trans K3.out; have d1 : Box w4 w.heap.size #[.slice none 0 0, .int .i64 0, .int .i64 0, .int .i64 0, .int .i64 0] 29 := db.trans D3.out; have r1 := B3.out.trans (r.bel.mono (by omega)); have c3 : w4.cell? ⟨(w.heap.size + 1 + 1), 3, none⟩ = some (.int .i64 0) := k1.cell 3; have u3 : w4.frozen? ⟨(w.heap.size + 1 + 1), 3, none⟩ = false := k1.free 3; have k2 := (k1.set 3 (.int .i64 pr)); simp at k2; have B4 := Lib.hid (r1.setCell (p := ⟨(w.heap.size + 1 + 1), 3, none⟩) (by dsimp only; omega) (.int .i64 pr)); have X4 := Lib.hid (boxed_off x4 (show (w.heap.size + 1) ≠ (w.heap.size + 1 + 1) by omega) 3 (.int .i64 pr)); have K4 := Lib.hid k2; have D4 := Lib.hid (d1.other (p := ⟨(w.heap.size + 1 + 1), 3, none⟩) (by dsimp only; omega) (.int .i64 pr)); clear r r1 k1 k2 d1 kb db x4)
    | (go_at_call 102; refine (expect_rd (p := ⟨#[32, 112, 114, 101, 115, 115, 32]⟩) (l := L3) (w.heap.size + 1) _ z2 X2.out (by rw [y2]; exact H3.out)).mono ?_; rintro e w3 ⟨rfl, r⟩; obtain ⟨s3, x3, y3, z3⟩ := r.box; have kb := r.old _ K2.out.lt (by omega); have db := r.old _ D2.out.lt (by omega); have k1 : Box w3 (w.heap.size + 1 + 1) #[.slice none 0 0, .int .i64 lo, .int .i64 hi, .int .i64 0, .int .i64 0] 29 := kb.trans K2.out; have d1 : Box w3 w.heap.size #[.slice none 0 0, .int .i64 0, .int .i64 0, .int .i64 0, .int .i64 0] 29 := db.trans D2.out; have r1 := B2.out.trans (r.bel.mono (by omega)); have B3 := Lib.hid r1; have X3 := Lib.hid x3; have K3 := Lib.hid k1; have D3 := Lib.hid d1; clear r r1 k1 d1 kb db x3)
    | (go_at_call 104; refine (span_rd (w.heap.size + 1) _ z1 X1.out (by rw [y1]; exact H2.out)).mono ?_; rintro e w2 ⟨rfl, r⟩; obtain ⟨s2, x2, y2, z2⟩ := r.box; have kb := r.old _ K1.out.lt (by omega); have db := r.old _ D1.out.lt (by omega); have k1 : Box w2 (w.heap.size + 1 + 1) #[.slice none 0 0, .int .i64 0, .int .i64 0, .int .i64 0, .int .i64 0] 29 := kb.trans K1.out; have d1 : Box w2 w.heap.size #[.slice none 0 0, .int .i64 0, .int .i64 0, .int .i64 0, .int .i64 0] 29 := db.trans D1.out; have r1 := B1.out.trans (r.bel.mono (by omega)); have c1 : w2.cell? ⟨(w.heap.size + 1 + 1), 1, none⟩ = some (.int .i64 0) := k1.cell 1; have u1 : w2.frozen? ⟨(w.heap.size + 1 + 1), 1, none⟩ = false := k1.free 1; have c2 : w2.cell? ⟨(w.heap.size + 1 + 1), 2, none⟩ = some (.int .i64 0) := k1.cell 2; have u2 : w2.frozen? ⟨(w.heap.size + 1 + 1), 2, none⟩ = false := k1.free 2; have k2 := ((k1.set 1 (.int .i64 lo)).set 2 (.int .i64 hi)); simp at k2; have B2 := Lib.hid ((r1.setCell (p := ⟨(w.heap.size + 1 + 1), 1, none⟩) (by dsimp only; omega) (.int .i64 lo)).setCell (p := ⟨(w.heap.size + 1 + 1), 2, none⟩) (by dsimp only; omega) (.int .i64 hi)); have X2 := Lib.hid (boxed_off (boxed_off x2 (show (w.heap.size + 1) ≠ (w.heap.size + 1 + 1) by omega) 1 (.int .i64 lo)) (show (w.heap.size + 1) ≠ (w.heap.size + 1 + 1) by omega) 2 (.int .i64 hi)); have K2 := Lib.hid k2; have D2 := Lib.hid ((d1.other (p := ⟨(w.heap.size + 1 + 1), 1, none⟩) (by dsimp only; omega) (.int .i64 lo)).other (p := ⟨(w.heap.size + 1 + 1), 2, none⟩) (by dsimp only; omega) (.int .i64 hi)); clear r r1 k1 k2 d1 kb db x2)
    | (go_at_call 102; refine (expect_rd (p := ⟨#[115, 116, 97, 110, 100, 32, 103, 114, 111, 119, 32]⟩) (l := L1) (w.heap.size + 1) _ z0 X0.out (by rw [y0]; exact H1.out)).mono ?_; rintro e w1 ⟨rfl, r⟩; obtain ⟨s1, x1, y1, z1⟩ := r.box; have kb := r.old _ K0.out.lt (by omega); have db := r.old _ D0.out.lt (by omega); have k1 : Box w1 (w.heap.size + 1 + 1) #[.slice none 0 0, .int .i64 0, .int .i64 0, .int .i64 0, .int .i64 0] 29 := kb.trans K0.out; have d1 : Box w1 w.heap.size #[.slice none 0 0, .int .i64 0, .int .i64 0, .int .i64 0, .int .i64 0] 29 := db.trans D0.out; have r1 := B0.out.trans (r.bel.mono (by omega)); have B1 := Lib.hid r1; have X1 := Lib.hid x1; have K1 := Lib.hid k1; have D1 := Lib.hid d1; clear r r1 k1 d1 kb db x1))
  exact ⟨rfl, rfl, RE.out⟩
set_option maxRecDepth 100000 in
set_option maxHeartbeats 4000000 in
theorem readStand_er6 {s : ByteArray} {lo hi : Int} {pr : Int} {L1 : List UInt8} {L2 : List UInt8} {L3 : List UInt8} {L4 : List UInt8} {L5 : List UInt8} (w : World) (hs : s.size ≤ 65536) (h1 : expL [115, 116, 97, 110, 100, 32, 103, 114, 111, 119, 32] s.data.toList = some L1) (h2 : spanL L1 = some ((lo, hi), L2)) (h3 : expL [32, 112, 114, 101, 115, 115, 32] L2 = some L3) (h4 : numL L3 = some (pr, L4)) (h5 : expL [32, 110, 101, 97, 114, 32] L4 = some L5) (e0 : numL L5 = none) :
    Calls Tryd.prog 87 #[.string s] w fun e w' => e = errV ∧ Below w.heap.size w w' := by
  have z0 := hs
  have y0 : s.data.toList = s.data.toList := rfl
  have x0 := Boxed.new (w.alloc (.cells #[.slice none 0 0, .int .i64 0, .int .i64 0, .int .i64 0, .int .i64 0] 29)) 135 (.string s)
  rw [World.size_alloc] at x0
  have X0 := Lib.hid (x0.alloc (.cells #[.slice none 0 0, .int .i64 0, .int .i64 0, .int .i64 0, .int .i64 0] 29))
  have k0 := Box.new ((w.alloc (.cells #[.slice none 0 0, .int .i64 0, .int .i64 0, .int .i64 0, .int .i64 0] 29)).alloc (.cells #[.string s] 135)) #[.slice none 0 0, .int .i64 0, .int .i64 0, .int .i64 0, .int .i64 0] 29
  rw [World.size_alloc, World.size_alloc] at k0
  have K0 := Lib.hid k0
  have D0 := Lib.hid (((Box.new w #[.slice none 0 0, .int .i64 0, .int .i64 0, .int .i64 0, .int .i64 0] 29).alloc (.cells #[.string s] 135)).alloc (.cells #[.slice none 0 0, .int .i64 0, .int .i64 0, .int .i64 0, .int .i64 0] 29))
  have B0 := Lib.hid ((((Below.refl w.heap.size w).alloc (Nat.le_refl _) (.cells #[.slice none 0 0, .int .i64 0, .int .i64 0, .int .i64 0, .int .i64 0] 29)).alloc (by simp) (.cells #[.string s] 135)).alloc (by simp; omega) (.cells #[.slice none 0 0, .int .i64 0, .int .i64 0, .int .i64 0, .int .i64 0] 29))
  clear x0 k0
  have H1 := Lib.hid h1
  have H2 := Lib.hid h2
  have H3 := Lib.hid h3
  have H4 := Lib.hid h4
  have H5 := Lib.hid h5
  have E6 := Lib.hid e0
  clear e0 h1 h2 h3 h4 h5
  have hmf : ∀ (fn : Fn) (first cap : Array Value) (W : World), (Instr.makeFunc fn first cap).run Tryd.prog W = .ok (.func fn first cap) W := fun _ _ _ _ => rfl
  go_enter Tryd.func87, Tryd.ntmps87
  go_wp2_with (first
    | (go_at_call 103; refine (number_er (w.heap.size + 1) _ z5 X5.out (by rw [y5]; exact E6.out)).mono ?_; rintro e w6 ⟨rfl, r⟩; have RE := Lib.hid (B5.out.trans (r.mono (by omega))); clear r; unfold errV)
    | (go_at_call 102; refine (expect_rd (p := ⟨#[32, 110, 101, 97, 114, 32]⟩) (l := L5) (w.heap.size + 1) _ z4 X4.out (by rw [y4]; exact H5.out)).mono ?_; rintro e w5 ⟨rfl, r⟩; obtain ⟨s5, x5, y5, z5⟩ := r.box; have kb := r.old _ K4.out.lt (by omega); have db := r.old _ D4.out.lt (by omega); have k1 : Box w5 (w.heap.size + 1 + 1) #[.slice none 0 0, .int .i64 lo, .int .i64 hi, .int .i64 pr, .int .i64 0] 29 := kb.trans K4.out; have d1 : Box w5 w.heap.size #[.slice none 0 0, .int .i64 0, .int .i64 0, .int .i64 0, .int .i64 0] 29 := db.trans D4.out; have r1 := B4.out.trans (r.bel.mono (by omega)); have B5 := Lib.hid r1; have X5 := Lib.hid x5; have K5 := Lib.hid k1; have D5 := Lib.hid d1; clear r r1 k1 d1 kb db x5)
    | (go_at_call 103; refine (number_rd (w.heap.size + 1) _ z3 X3.out (by rw [y3]; exact H4.out)).mono ?_; rintro e w4 ⟨rfl, r⟩; obtain ⟨s4, x4, y4, z4⟩ := r.box; have kb := r.old _ K3.out.lt (by omega); have db := r.old _ D3.out.lt (by omega); have k1 : Box w4 (w.heap.size + 1 + 1) #[.slice none 0 0, .int .i64 lo, .int .i64 hi, .int .i64 0, .int .i64 0] 29 := kb.trans K3.out; have d1 : Box w4 w.heap.size #[.slice none 0 0, .int .i64 0, .int .i64 0, .int .i64 0, .int .i64 0] 29 := db.trans D3.out; have r1 := B3.out.trans (r.bel.mono (by omega)); have c3 : w4.cell? ⟨(w.heap.size + 1 + 1), 3, none⟩ = some (.int .i64 0) := k1.cell 3; have u3 : w4.frozen? ⟨(w.heap.size + 1 + 1), 3, none⟩ = false := k1.free 3; have k2 := (k1.set 3 (.int .i64 pr)); simp at k2; have B4 := Lib.hid (r1.setCell (p := ⟨(w.heap.size + 1 + 1), 3, none⟩) (by dsimp only; omega) (.int .i64 pr)); have X4 := Lib.hid (boxed_off x4 (show (w.heap.size + 1) ≠ (w.heap.size + 1 + 1) by omega) 3 (.int .i64 pr)); have K4 := Lib.hid k2; have D4 := Lib.hid (d1.other (p := ⟨(w.heap.size + 1 + 1), 3, none⟩) (by dsimp only; omega) (.int .i64 pr)); clear r r1 k1 k2 d1 kb db x4)
    | (go_at_call 102; refine (expect_rd (p := ⟨#[32, 112, 114, 101, 115, 115, 32]⟩) (l := L3) (w.heap.size + 1) _ z2 X2.out (by rw [y2]; exact H3.out)).mono ?_; rintro e w3 ⟨rfl, r⟩; obtain ⟨s3, x3, y3, z3⟩ := r.box; have kb := r.old _ K2.out.lt (by omega); have db := r.old _ D2.out.lt (by omega); have k1 : Box w3 (w.heap.size + 1 + 1) #[.slice none 0 0, .int .i64 lo, .int .i64 hi, .int .i64 0, .int .i64 0] 29 := kb.trans K2.out; have d1 : Box w3 w.heap.size #[.slice none 0 0, .int .i64 0, .int .i64 0, .int .i64 0, .int .i64 0] 29 := db.trans D2.out; have r1 := B2.out.trans (r.bel.mono (by omega)); have B3 := Lib.hid r1; have X3 := Lib.hid x3; have K3 := Lib.hid k1; have D3 := Lib.hid d1; clear r r1 k1 d1 kb db x3)
    | (go_at_call 104; refine (span_rd (w.heap.size + 1) _ z1 X1.out (by rw [y1]; exact H2.out)).mono ?_; rintro e w2 ⟨rfl, r⟩; obtain ⟨s2, x2, y2, z2⟩ := r.box; have kb := r.old _ K1.out.lt (by omega); have db := r.old _ D1.out.lt (by omega); have k1 : Box w2 (w.heap.size + 1 + 1) #[.slice none 0 0, .int .i64 0, .int .i64 0, .int .i64 0, .int .i64 0] 29 := kb.trans K1.out; have d1 : Box w2 w.heap.size #[.slice none 0 0, .int .i64 0, .int .i64 0, .int .i64 0, .int .i64 0] 29 := db.trans D1.out; have r1 := B1.out.trans (r.bel.mono (by omega)); have c1 : w2.cell? ⟨(w.heap.size + 1 + 1), 1, none⟩ = some (.int .i64 0) := k1.cell 1; have u1 : w2.frozen? ⟨(w.heap.size + 1 + 1), 1, none⟩ = false := k1.free 1; have c2 : w2.cell? ⟨(w.heap.size + 1 + 1), 2, none⟩ = some (.int .i64 0) := k1.cell 2; have u2 : w2.frozen? ⟨(w.heap.size + 1 + 1), 2, none⟩ = false := k1.free 2; have k2 := ((k1.set 1 (.int .i64 lo)).set 2 (.int .i64 hi)); simp at k2; have B2 := Lib.hid ((r1.setCell (p := ⟨(w.heap.size + 1 + 1), 1, none⟩) (by dsimp only; omega) (.int .i64 lo)).setCell (p := ⟨(w.heap.size + 1 + 1), 2, none⟩) (by dsimp only; omega) (.int .i64 hi)); have X2 := Lib.hid (boxed_off (boxed_off x2 (show (w.heap.size + 1) ≠ (w.heap.size + 1 + 1) by omega) 1 (.int .i64 lo)) (show (w.heap.size + 1) ≠ (w.heap.size + 1 + 1) by omega) 2 (.int .i64 hi)); have K2 := Lib.hid k2; have D2 := Lib.hid ((d1.other (p := ⟨(w.heap.size + 1 + 1), 1, none⟩) (by dsimp only; omega) (.int .i64 lo)).other (p := ⟨(w.heap.size + 1 + 1), 2, none⟩) (by dsimp only; omega) (.int .i64 hi)); clear r r1 k1 k2 d1 kb db x2)
    | (go_at_call 102; refine (expect_rd (p := ⟨#[115, 116, 97, 110, 100, 32, 103, 114, 111, 119, 32]⟩) (l := L1) (w.heap.size + 1) _ z0 X0.out (by rw [y0]; exact H1.out)).mono ?_; rintro e w1 ⟨rfl, r⟩; obtain ⟨s1, x1, y1, z1⟩ := r.box; have kb := r.old _ K0.out.lt (by omega); have db := r.old _ D0.out.lt (by omega); have k1 : Box w1 (w.heap.size + 1 + 1) #[.slice none 0 0, .int .i64 0, .int .i64 0, .int .i64 0, .int .i64 0] 29 := kb.trans K0.out; have d1 : Box w1 w.heap.size #[.slice none 0 0, .int .i64 0, .int .i64 0, .int .i64 0, .int .i64 0] 29 := db.trans D0.out; have r1 := B0.out.trans (r.bel.mono (by omega)); have B1 := Lib.hid r1; have X1 := Lib.hid x1; have K1 := Lib.hid k1; have D1 := Lib.hid d1; clear r r1 k1 d1 kb db x1))
  exact ⟨rfl, rfl, RE.out⟩
set_option maxRecDepth 100000 in
set_option maxHeartbeats 4000000 in
theorem readStand_er7 {s : ByteArray} {lo hi : Int} {pr : Int} {ne : Int} {L1 : List UInt8} {L2 : List UInt8} {L3 : List UInt8} {L4 : List UInt8} {L5 : List UInt8} {L6 : List UInt8} (w : World) (hs : s.size ≤ 65536) (h1 : expL [115, 116, 97, 110, 100, 32, 103, 114, 111, 119, 32] s.data.toList = some L1) (h2 : spanL L1 = some ((lo, hi), L2)) (h3 : expL [32, 112, 114, 101, 115, 115, 32] L2 = some L3) (h4 : numL L3 = some (pr, L4)) (h5 : expL [32, 110, 101, 97, 114, 32] L4 = some L5) (h6 : numL L5 = some (ne, L6)) (e0 : expL [10] L6 = none) :
    Calls Tryd.prog 87 #[.string s] w fun e w' => e = errV ∧ Below w.heap.size w w' := by
  have z0 := hs
  have y0 : s.data.toList = s.data.toList := rfl
  have x0 := Boxed.new (w.alloc (.cells #[.slice none 0 0, .int .i64 0, .int .i64 0, .int .i64 0, .int .i64 0] 29)) 135 (.string s)
  rw [World.size_alloc] at x0
  have X0 := Lib.hid (x0.alloc (.cells #[.slice none 0 0, .int .i64 0, .int .i64 0, .int .i64 0, .int .i64 0] 29))
  have k0 := Box.new ((w.alloc (.cells #[.slice none 0 0, .int .i64 0, .int .i64 0, .int .i64 0, .int .i64 0] 29)).alloc (.cells #[.string s] 135)) #[.slice none 0 0, .int .i64 0, .int .i64 0, .int .i64 0, .int .i64 0] 29
  rw [World.size_alloc, World.size_alloc] at k0
  have K0 := Lib.hid k0
  have D0 := Lib.hid (((Box.new w #[.slice none 0 0, .int .i64 0, .int .i64 0, .int .i64 0, .int .i64 0] 29).alloc (.cells #[.string s] 135)).alloc (.cells #[.slice none 0 0, .int .i64 0, .int .i64 0, .int .i64 0, .int .i64 0] 29))
  have B0 := Lib.hid ((((Below.refl w.heap.size w).alloc (Nat.le_refl _) (.cells #[.slice none 0 0, .int .i64 0, .int .i64 0, .int .i64 0, .int .i64 0] 29)).alloc (by simp) (.cells #[.string s] 135)).alloc (by simp; omega) (.cells #[.slice none 0 0, .int .i64 0, .int .i64 0, .int .i64 0, .int .i64 0] 29))
  clear x0 k0
  have H1 := Lib.hid h1
  have H2 := Lib.hid h2
  have H3 := Lib.hid h3
  have H4 := Lib.hid h4
  have H5 := Lib.hid h5
  have H6 := Lib.hid h6
  have E7 := Lib.hid e0
  clear e0 h1 h2 h3 h4 h5 h6
  have hmf : ∀ (fn : Fn) (first cap : Array Value) (W : World), (Instr.makeFunc fn first cap).run Tryd.prog W = .ok (.func fn first cap) W := fun _ _ _ _ => rfl
  go_enter Tryd.func87, Tryd.ntmps87
  go_wp2_with (first
    | (go_at_call 102; refine (expect_er (p := ⟨#[10]⟩) (w.heap.size + 1) _ X6.out (by rw [y6]; exact E7.out)).mono ?_; rintro e w7 ⟨rfl, r⟩; have RE := Lib.hid (B6.out.trans (r.mono (by omega))); clear r; unfold errV)
    | (go_at_call 103; refine (number_rd (w.heap.size + 1) _ z5 X5.out (by rw [y5]; exact H6.out)).mono ?_; rintro e w6 ⟨rfl, r⟩; obtain ⟨s6, x6, y6, z6⟩ := r.box; have kb := r.old _ K5.out.lt (by omega); have db := r.old _ D5.out.lt (by omega); have k1 : Box w6 (w.heap.size + 1 + 1) #[.slice none 0 0, .int .i64 lo, .int .i64 hi, .int .i64 pr, .int .i64 0] 29 := kb.trans K5.out; have d1 : Box w6 w.heap.size #[.slice none 0 0, .int .i64 0, .int .i64 0, .int .i64 0, .int .i64 0] 29 := db.trans D5.out; have r1 := B5.out.trans (r.bel.mono (by omega)); have c4 : w6.cell? ⟨(w.heap.size + 1 + 1), 4, none⟩ = some (.int .i64 0) := k1.cell 4; have u4 : w6.frozen? ⟨(w.heap.size + 1 + 1), 4, none⟩ = false := k1.free 4; have k2 := (k1.set 4 (.int .i64 ne)); simp at k2; have B6 := Lib.hid (r1.setCell (p := ⟨(w.heap.size + 1 + 1), 4, none⟩) (by dsimp only; omega) (.int .i64 ne)); have X6 := Lib.hid (boxed_off x6 (show (w.heap.size + 1) ≠ (w.heap.size + 1 + 1) by omega) 4 (.int .i64 ne)); have K6 := Lib.hid k2; have D6 := Lib.hid (d1.other (p := ⟨(w.heap.size + 1 + 1), 4, none⟩) (by dsimp only; omega) (.int .i64 ne)); clear r r1 k1 k2 d1 kb db x6)
    | (go_at_call 102; refine (expect_rd (p := ⟨#[32, 110, 101, 97, 114, 32]⟩) (l := L5) (w.heap.size + 1) _ z4 X4.out (by rw [y4]; exact H5.out)).mono ?_; rintro e w5 ⟨rfl, r⟩; obtain ⟨s5, x5, y5, z5⟩ := r.box; have kb := r.old _ K4.out.lt (by omega); have db := r.old _ D4.out.lt (by omega); have k1 : Box w5 (w.heap.size + 1 + 1) #[.slice none 0 0, .int .i64 lo, .int .i64 hi, .int .i64 pr, .int .i64 0] 29 := kb.trans K4.out; have d1 : Box w5 w.heap.size #[.slice none 0 0, .int .i64 0, .int .i64 0, .int .i64 0, .int .i64 0] 29 := db.trans D4.out; have r1 := B4.out.trans (r.bel.mono (by omega)); have B5 := Lib.hid r1; have X5 := Lib.hid x5; have K5 := Lib.hid k1; have D5 := Lib.hid d1; clear r r1 k1 d1 kb db x5)
    | (go_at_call 103; refine (number_rd (w.heap.size + 1) _ z3 X3.out (by rw [y3]; exact H4.out)).mono ?_; rintro e w4 ⟨rfl, r⟩; obtain ⟨s4, x4, y4, z4⟩ := r.box; have kb := r.old _ K3.out.lt (by omega); have db := r.old _ D3.out.lt (by omega); have k1 : Box w4 (w.heap.size + 1 + 1) #[.slice none 0 0, .int .i64 lo, .int .i64 hi, .int .i64 0, .int .i64 0] 29 := kb.trans K3.out; have d1 : Box w4 w.heap.size #[.slice none 0 0, .int .i64 0, .int .i64 0, .int .i64 0, .int .i64 0] 29 := db.trans D3.out; have r1 := B3.out.trans (r.bel.mono (by omega)); have c3 : w4.cell? ⟨(w.heap.size + 1 + 1), 3, none⟩ = some (.int .i64 0) := k1.cell 3; have u3 : w4.frozen? ⟨(w.heap.size + 1 + 1), 3, none⟩ = false := k1.free 3; have k2 := (k1.set 3 (.int .i64 pr)); simp at k2; have B4 := Lib.hid (r1.setCell (p := ⟨(w.heap.size + 1 + 1), 3, none⟩) (by dsimp only; omega) (.int .i64 pr)); have X4 := Lib.hid (boxed_off x4 (show (w.heap.size + 1) ≠ (w.heap.size + 1 + 1) by omega) 3 (.int .i64 pr)); have K4 := Lib.hid k2; have D4 := Lib.hid (d1.other (p := ⟨(w.heap.size + 1 + 1), 3, none⟩) (by dsimp only; omega) (.int .i64 pr)); clear r r1 k1 k2 d1 kb db x4)
    | (go_at_call 102; refine (expect_rd (p := ⟨#[32, 112, 114, 101, 115, 115, 32]⟩) (l := L3) (w.heap.size + 1) _ z2 X2.out (by rw [y2]; exact H3.out)).mono ?_; rintro e w3 ⟨rfl, r⟩; obtain ⟨s3, x3, y3, z3⟩ := r.box; have kb := r.old _ K2.out.lt (by omega); have db := r.old _ D2.out.lt (by omega); have k1 : Box w3 (w.heap.size + 1 + 1) #[.slice none 0 0, .int .i64 lo, .int .i64 hi, .int .i64 0, .int .i64 0] 29 := kb.trans K2.out; have d1 : Box w3 w.heap.size #[.slice none 0 0, .int .i64 0, .int .i64 0, .int .i64 0, .int .i64 0] 29 := db.trans D2.out; have r1 := B2.out.trans (r.bel.mono (by omega)); have B3 := Lib.hid r1; have X3 := Lib.hid x3; have K3 := Lib.hid k1; have D3 := Lib.hid d1; clear r r1 k1 d1 kb db x3)
    | (go_at_call 104; refine (span_rd (w.heap.size + 1) _ z1 X1.out (by rw [y1]; exact H2.out)).mono ?_; rintro e w2 ⟨rfl, r⟩; obtain ⟨s2, x2, y2, z2⟩ := r.box; have kb := r.old _ K1.out.lt (by omega); have db := r.old _ D1.out.lt (by omega); have k1 : Box w2 (w.heap.size + 1 + 1) #[.slice none 0 0, .int .i64 0, .int .i64 0, .int .i64 0, .int .i64 0] 29 := kb.trans K1.out; have d1 : Box w2 w.heap.size #[.slice none 0 0, .int .i64 0, .int .i64 0, .int .i64 0, .int .i64 0] 29 := db.trans D1.out; have r1 := B1.out.trans (r.bel.mono (by omega)); have c1 : w2.cell? ⟨(w.heap.size + 1 + 1), 1, none⟩ = some (.int .i64 0) := k1.cell 1; have u1 : w2.frozen? ⟨(w.heap.size + 1 + 1), 1, none⟩ = false := k1.free 1; have c2 : w2.cell? ⟨(w.heap.size + 1 + 1), 2, none⟩ = some (.int .i64 0) := k1.cell 2; have u2 : w2.frozen? ⟨(w.heap.size + 1 + 1), 2, none⟩ = false := k1.free 2; have k2 := ((k1.set 1 (.int .i64 lo)).set 2 (.int .i64 hi)); simp at k2; have B2 := Lib.hid ((r1.setCell (p := ⟨(w.heap.size + 1 + 1), 1, none⟩) (by dsimp only; omega) (.int .i64 lo)).setCell (p := ⟨(w.heap.size + 1 + 1), 2, none⟩) (by dsimp only; omega) (.int .i64 hi)); have X2 := Lib.hid (boxed_off (boxed_off x2 (show (w.heap.size + 1) ≠ (w.heap.size + 1 + 1) by omega) 1 (.int .i64 lo)) (show (w.heap.size + 1) ≠ (w.heap.size + 1 + 1) by omega) 2 (.int .i64 hi)); have K2 := Lib.hid k2; have D2 := Lib.hid ((d1.other (p := ⟨(w.heap.size + 1 + 1), 1, none⟩) (by dsimp only; omega) (.int .i64 lo)).other (p := ⟨(w.heap.size + 1 + 1), 2, none⟩) (by dsimp only; omega) (.int .i64 hi)); clear r r1 k1 k2 d1 kb db x2)
    | (go_at_call 102; refine (expect_rd (p := ⟨#[115, 116, 97, 110, 100, 32, 103, 114, 111, 119, 32]⟩) (l := L1) (w.heap.size + 1) _ z0 X0.out (by rw [y0]; exact H1.out)).mono ?_; rintro e w1 ⟨rfl, r⟩; obtain ⟨s1, x1, y1, z1⟩ := r.box; have kb := r.old _ K0.out.lt (by omega); have db := r.old _ D0.out.lt (by omega); have k1 : Box w1 (w.heap.size + 1 + 1) #[.slice none 0 0, .int .i64 0, .int .i64 0, .int .i64 0, .int .i64 0] 29 := kb.trans K0.out; have d1 : Box w1 w.heap.size #[.slice none 0 0, .int .i64 0, .int .i64 0, .int .i64 0, .int .i64 0] 29 := db.trans D0.out; have r1 := B0.out.trans (r.bel.mono (by omega)); have B1 := Lib.hid r1; have X1 := Lib.hid x1; have K1 := Lib.hid k1; have D1 := Lib.hid d1; clear r r1 k1 d1 kb db x1))
  exact ⟨rfl, rfl, RE.out⟩
theorem treesL_bad {g : Nat} {l : List UInt8} (h : treesL (g + 1) l = none) : l ≠ [] ∧ (treeL l = none ∨ ∃ u l', treeL l = some (u, l') ∧ treesL g l' = none) := by
  match l, h with
  | [], h => cases h
  | c :: l, h =>
    refine ⟨by simp, ?_⟩
    rcases e : treeL (c :: l) with _ | ⟨u, l'⟩
    · exact .inl rfl
    · right
      refine ⟨u, l', rfl, ?_⟩
      rw [treesL, e] at h
      simpa using h
set_option maxRecDepth 100000 in
set_option maxHeartbeats 4000000 in
theorem readStand_er8 {s : ByteArray} {lo hi : Int} {pr : Int} {ne : Int} {L1 : List UInt8} {L2 : List UInt8} {L3 : List UInt8} {L4 : List UInt8} {L5 : List UInt8} {L6 : List UInt8} {L7 : List UInt8} (w : World) (hs : s.size ≤ 65536) (h1 : expL [115, 116, 97, 110, 100, 32, 103, 114, 111, 119, 32] s.data.toList = some L1) (h2 : spanL L1 = some ((lo, hi), L2)) (h3 : expL [32, 112, 114, 101, 115, 115, 32] L2 = some L3) (h4 : numL L3 = some (pr, L4)) (h5 : expL [32, 110, 101, 97, 114, 32] L4 = some L5) (h6 : numL L5 = some (ne, L6)) (h7 : expL [10] L6 = some L7) (h8 : treesL L7.length L7 = none) :
    Calls Tryd.prog 87 #[.string s] w fun e w' => e = errV ∧ Below w.heap.size w w' := by
  have z0 := hs
  have y0 : s.data.toList = s.data.toList := rfl
  have x0 := Boxed.new (w.alloc (.cells #[.slice none 0 0, .int .i64 0, .int .i64 0, .int .i64 0, .int .i64 0] 29)) 135 (.string s)
  rw [World.size_alloc] at x0
  have X0 := Lib.hid (x0.alloc (.cells #[.slice none 0 0, .int .i64 0, .int .i64 0, .int .i64 0, .int .i64 0] 29))
  have k0 := Box.new ((w.alloc (.cells #[.slice none 0 0, .int .i64 0, .int .i64 0, .int .i64 0, .int .i64 0] 29)).alloc (.cells #[.string s] 135)) #[.slice none 0 0, .int .i64 0, .int .i64 0, .int .i64 0, .int .i64 0] 29
  rw [World.size_alloc, World.size_alloc] at k0
  have K0 := Lib.hid k0
  have D0 := Lib.hid (((Box.new w #[.slice none 0 0, .int .i64 0, .int .i64 0, .int .i64 0, .int .i64 0] 29).alloc (.cells #[.string s] 135)).alloc (.cells #[.slice none 0 0, .int .i64 0, .int .i64 0, .int .i64 0, .int .i64 0] 29))
  have B0 := Lib.hid ((((Below.refl w.heap.size w).alloc (Nat.le_refl _) (.cells #[.slice none 0 0, .int .i64 0, .int .i64 0, .int .i64 0, .int .i64 0] 29)).alloc (by simp) (.cells #[.string s] 135)).alloc (by simp; omega) (.cells #[.slice none 0 0, .int .i64 0, .int .i64 0, .int .i64 0, .int .i64 0] 29))
  clear x0 k0
  have H1 := Lib.hid h1
  have H2 := Lib.hid h2
  have H3 := Lib.hid h3
  have H4 := Lib.hid h4
  have H5 := Lib.hid h5
  have H6 := Lib.hid h6
  have H7 := Lib.hid h7
  have H8 := Lib.hid h8
  clear h8 h1 h2 h3 h4 h5 h6 h7
  have hmf : ∀ (fn : Fn) (first cap : Array Value) (W : World), (Instr.makeFunc fn first cap).run Tryd.prog W = .ok (.func fn first cap) W := fun _ _ _ _ => rfl
  go_enter Tryd.func87, Tryd.ntmps87
  go_wp2_with (first
    | (go_at_call 102; refine (expect_rd (p := ⟨#[10]⟩) (l := L7) (w.heap.size + 1) _ z6 X6.out (by rw [y6]; exact H7.out)).mono ?_; rintro e w7 ⟨rfl, r⟩; obtain ⟨s7, x7, y7, z7⟩ := r.box; have kb := r.old _ K6.out.lt (by omega); have db := r.old _ D6.out.lt (by omega); have k1 : Box w7 (w.heap.size + 1 + 1) #[.slice none 0 0, .int .i64 lo, .int .i64 hi, .int .i64 pr, .int .i64 ne] 29 := kb.trans K6.out; have d1 : Box w7 w.heap.size #[.slice none 0 0, .int .i64 0, .int .i64 0, .int .i64 0, .int .i64 0] 29 := db.trans D6.out; have r1 := B6.out.trans (r.bel.mono (by omega)); have B7 := Lib.hid r1; have X7 := Lib.hid x7; have K7 := Lib.hid k1; have D7 := Lib.hid d1; clear r r1 k1 d1 kb db x7)
    | (go_at_call 103; refine (number_rd (w.heap.size + 1) _ z5 X5.out (by rw [y5]; exact H6.out)).mono ?_; rintro e w6 ⟨rfl, r⟩; obtain ⟨s6, x6, y6, z6⟩ := r.box; have kb := r.old _ K5.out.lt (by omega); have db := r.old _ D5.out.lt (by omega); have k1 : Box w6 (w.heap.size + 1 + 1) #[.slice none 0 0, .int .i64 lo, .int .i64 hi, .int .i64 pr, .int .i64 0] 29 := kb.trans K5.out; have d1 : Box w6 w.heap.size #[.slice none 0 0, .int .i64 0, .int .i64 0, .int .i64 0, .int .i64 0] 29 := db.trans D5.out; have r1 := B5.out.trans (r.bel.mono (by omega)); have c4 : w6.cell? ⟨(w.heap.size + 1 + 1), 4, none⟩ = some (.int .i64 0) := k1.cell 4; have u4 : w6.frozen? ⟨(w.heap.size + 1 + 1), 4, none⟩ = false := k1.free 4; have k2 := (k1.set 4 (.int .i64 ne)); simp at k2; have B6 := Lib.hid (r1.setCell (p := ⟨(w.heap.size + 1 + 1), 4, none⟩) (by dsimp only; omega) (.int .i64 ne)); have X6 := Lib.hid (boxed_off x6 (show (w.heap.size + 1) ≠ (w.heap.size + 1 + 1) by omega) 4 (.int .i64 ne)); have K6 := Lib.hid k2; have D6 := Lib.hid (d1.other (p := ⟨(w.heap.size + 1 + 1), 4, none⟩) (by dsimp only; omega) (.int .i64 ne)); clear r r1 k1 k2 d1 kb db x6)
    | (go_at_call 102; refine (expect_rd (p := ⟨#[32, 110, 101, 97, 114, 32]⟩) (l := L5) (w.heap.size + 1) _ z4 X4.out (by rw [y4]; exact H5.out)).mono ?_; rintro e w5 ⟨rfl, r⟩; obtain ⟨s5, x5, y5, z5⟩ := r.box; have kb := r.old _ K4.out.lt (by omega); have db := r.old _ D4.out.lt (by omega); have k1 : Box w5 (w.heap.size + 1 + 1) #[.slice none 0 0, .int .i64 lo, .int .i64 hi, .int .i64 pr, .int .i64 0] 29 := kb.trans K4.out; have d1 : Box w5 w.heap.size #[.slice none 0 0, .int .i64 0, .int .i64 0, .int .i64 0, .int .i64 0] 29 := db.trans D4.out; have r1 := B4.out.trans (r.bel.mono (by omega)); have B5 := Lib.hid r1; have X5 := Lib.hid x5; have K5 := Lib.hid k1; have D5 := Lib.hid d1; clear r r1 k1 d1 kb db x5)
    | (go_at_call 103; refine (number_rd (w.heap.size + 1) _ z3 X3.out (by rw [y3]; exact H4.out)).mono ?_; rintro e w4 ⟨rfl, r⟩; obtain ⟨s4, x4, y4, z4⟩ := r.box; have kb := r.old _ K3.out.lt (by omega); have db := r.old _ D3.out.lt (by omega); have k1 : Box w4 (w.heap.size + 1 + 1) #[.slice none 0 0, .int .i64 lo, .int .i64 hi, .int .i64 0, .int .i64 0] 29 := kb.trans K3.out; have d1 : Box w4 w.heap.size #[.slice none 0 0, .int .i64 0, .int .i64 0, .int .i64 0, .int .i64 0] 29 := db.trans D3.out; have r1 := B3.out.trans (r.bel.mono (by omega)); have c3 : w4.cell? ⟨(w.heap.size + 1 + 1), 3, none⟩ = some (.int .i64 0) := k1.cell 3; have u3 : w4.frozen? ⟨(w.heap.size + 1 + 1), 3, none⟩ = false := k1.free 3; have k2 := (k1.set 3 (.int .i64 pr)); simp at k2; have B4 := Lib.hid (r1.setCell (p := ⟨(w.heap.size + 1 + 1), 3, none⟩) (by dsimp only; omega) (.int .i64 pr)); have X4 := Lib.hid (boxed_off x4 (show (w.heap.size + 1) ≠ (w.heap.size + 1 + 1) by omega) 3 (.int .i64 pr)); have K4 := Lib.hid k2; have D4 := Lib.hid (d1.other (p := ⟨(w.heap.size + 1 + 1), 3, none⟩) (by dsimp only; omega) (.int .i64 pr)); clear r r1 k1 k2 d1 kb db x4)
    | (go_at_call 102; refine (expect_rd (p := ⟨#[32, 112, 114, 101, 115, 115, 32]⟩) (l := L3) (w.heap.size + 1) _ z2 X2.out (by rw [y2]; exact H3.out)).mono ?_; rintro e w3 ⟨rfl, r⟩; obtain ⟨s3, x3, y3, z3⟩ := r.box; have kb := r.old _ K2.out.lt (by omega); have db := r.old _ D2.out.lt (by omega); have k1 : Box w3 (w.heap.size + 1 + 1) #[.slice none 0 0, .int .i64 lo, .int .i64 hi, .int .i64 0, .int .i64 0] 29 := kb.trans K2.out; have d1 : Box w3 w.heap.size #[.slice none 0 0, .int .i64 0, .int .i64 0, .int .i64 0, .int .i64 0] 29 := db.trans D2.out; have r1 := B2.out.trans (r.bel.mono (by omega)); have B3 := Lib.hid r1; have X3 := Lib.hid x3; have K3 := Lib.hid k1; have D3 := Lib.hid d1; clear r r1 k1 d1 kb db x3)
    | (go_at_call 104; refine (span_rd (w.heap.size + 1) _ z1 X1.out (by rw [y1]; exact H2.out)).mono ?_; rintro e w2 ⟨rfl, r⟩; obtain ⟨s2, x2, y2, z2⟩ := r.box; have kb := r.old _ K1.out.lt (by omega); have db := r.old _ D1.out.lt (by omega); have k1 : Box w2 (w.heap.size + 1 + 1) #[.slice none 0 0, .int .i64 0, .int .i64 0, .int .i64 0, .int .i64 0] 29 := kb.trans K1.out; have d1 : Box w2 w.heap.size #[.slice none 0 0, .int .i64 0, .int .i64 0, .int .i64 0, .int .i64 0] 29 := db.trans D1.out; have r1 := B1.out.trans (r.bel.mono (by omega)); have c1 : w2.cell? ⟨(w.heap.size + 1 + 1), 1, none⟩ = some (.int .i64 0) := k1.cell 1; have u1 : w2.frozen? ⟨(w.heap.size + 1 + 1), 1, none⟩ = false := k1.free 1; have c2 : w2.cell? ⟨(w.heap.size + 1 + 1), 2, none⟩ = some (.int .i64 0) := k1.cell 2; have u2 : w2.frozen? ⟨(w.heap.size + 1 + 1), 2, none⟩ = false := k1.free 2; have k2 := ((k1.set 1 (.int .i64 lo)).set 2 (.int .i64 hi)); simp at k2; have B2 := Lib.hid ((r1.setCell (p := ⟨(w.heap.size + 1 + 1), 1, none⟩) (by dsimp only; omega) (.int .i64 lo)).setCell (p := ⟨(w.heap.size + 1 + 1), 2, none⟩) (by dsimp only; omega) (.int .i64 hi)); have X2 := Lib.hid (boxed_off (boxed_off x2 (show (w.heap.size + 1) ≠ (w.heap.size + 1 + 1) by omega) 1 (.int .i64 lo)) (show (w.heap.size + 1) ≠ (w.heap.size + 1 + 1) by omega) 2 (.int .i64 hi)); have K2 := Lib.hid k2; have D2 := Lib.hid ((d1.other (p := ⟨(w.heap.size + 1 + 1), 1, none⟩) (by dsimp only; omega) (.int .i64 lo)).other (p := ⟨(w.heap.size + 1 + 1), 2, none⟩) (by dsimp only; omega) (.int .i64 hi)); clear r r1 k1 k2 d1 kb db x2)
    | (go_at_call 102; refine (expect_rd (p := ⟨#[115, 116, 97, 110, 100, 32, 103, 114, 111, 119, 32]⟩) (l := L1) (w.heap.size + 1) _ z0 X0.out (by rw [y0]; exact H1.out)).mono ?_; rintro e w1 ⟨rfl, r⟩; obtain ⟨s1, x1, y1, z1⟩ := r.box; have kb := r.old _ K0.out.lt (by omega); have db := r.old _ D0.out.lt (by omega); have k1 : Box w1 (w.heap.size + 1 + 1) #[.slice none 0 0, .int .i64 0, .int .i64 0, .int .i64 0, .int .i64 0] 29 := kb.trans K0.out; have d1 : Box w1 w.heap.size #[.slice none 0 0, .int .i64 0, .int .i64 0, .int .i64 0, .int .i64 0] 29 := db.trans D0.out; have r1 := B0.out.trans (r.bel.mono (by omega)); have B1 := Lib.hid r1; have X1 := Lib.hid x1; have K1 := Lib.hid k1; have D1 := Lib.hid d1; clear r r1 k1 d1 kb db x1))
  clear hmf z0 z1 z2 z3 z4 z5 z6 y0 y1 y2 y3 y4 y5 y6 X0 X1 X2 X3 X4 X5 X6 K0 K1 K2 K3 K4 K5 K6 D0 D1 D2 D3 D4 D5 D6 B0 B1 B2 B3 B4 B5 B6 H1 H2 H3 H4 H5 H6 H7 c1 c2 c3 c4 u1 u2 u3 u4
  go_loopg [40] L7.length (fun g _ wr => ∃ (front : List Tree) (sv : ByteArray) (v : Value), Hid (treesL g sv.data.toList = none) ∧ Hid (sv.data.toList.length ≤ g) ∧ Hid (Boxed wr (w.heap.size + 1) 135 (.string sv)) ∧ sv.size ≤ 65536 ∧ Hid (front.length + sv.size ≤ 65536) ∧ Hid (wr.ownsRow (w.heap.size + 1 + 1 + 1) 62 6 v front.length (treeCells front)) ∧ Hid (Box wr (w.heap.size + 1 + 1) #[v, .int .i64 lo, .int .i64 hi, .int .i64 pr, .int .i64 ne] 29) ∧ Hid (Box wr w.heap.size #[.slice none 0 0, .int .i64 0, .int .i64 0, .int .i64 0, .int .i64 0] 29) ∧ Hid (Below w.heap.size w wr) ∧ w.heap.size + 1 + 1 + 1 ≤ wr.heap.size)
  case atStart => exact ⟨[], s7, .slice none 0 0, Lib.hid (by rw [y7]; exact H8.out), Lib.hid (by rw [y7]; exact Nat.le_refl _), X7, z7, Lib.hid (by simpa using z7), Lib.hid (World.ownsRow_nil _ _ _ _), K7, D7, B7, by have := K7.out.lt; omega⟩
  case round =>
    obtain ⟨front, sv, v, HF, HLE, HX, hsv, HL, HO, HK, HD, HB, hz⟩ := hrel
    have c0 := HX.out.cell
    have k0 : wr.cell? ⟨(w.heap.size + 1 + 1), 0, none⟩ = some v := HK.out.cell 0
    cases gk with
    | zero =>
      have hl : sv.data.toList = [] := List.eq_nil_of_length_eq_zero (by have := HLE.out; omega)
      have := HF.out
      rw [hl] at this
      cases this
    | succ gk =>
      obtain ⟨hne, hbad⟩ := treesL_bad HF.out
      have hn0 : (sv.toList == []) = false := by
        rw [Lib.toList_data]
        cases h : sv.data.toList with
        | nil => exact absurd h hne
        | cons _ _ => rfl
      clear hne
      rcases hbad with hu | ⟨u, l', hu, hr⟩
      · have HU := Lib.hid hu
        clear hu
        obtain ⟨va, vc, rfl⟩ := row_form HO.out
        have hBB := HB.out.drew
        go_wp2_with fail
        refine region_plan (.take 0 (.take 2 (.two 1 3 (.one 3 (.one 4 (.one 5 (.take 6 (.one 7 .done))))) (.two 1 4 (.one 4 (.one 5 (.take 6 (.one 7 .done)))) (.one 1 (.one 5 (.take 6 (.one 7 .done)))))))) (by kernel_rfl) (by kernel_rfl) (by kernel_rfl) (by simp [Plan.depth]) (fun _ _ _ _ h => h) ?_
        (refine PlanW.free (v := ?_) rfl (by rfl) (fun W => ?_) ?_; rotate_left; (go_simp; with_reducible rfl); simp only [Act.put, List.setIfInBounds_toArray, List.set_cons_zero, List.set_cons_succ])
        (refine PlanW.free (v := ?_) rfl (by rfl) (fun W => ?_) ?_; rotate_left; (go_simp; with_reducible rfl); simp only [Act.put, List.setIfInBounds_toArray, List.set_cons_zero, List.set_cons_succ])
        refine ⟨?_, ?_⟩
        · (refine wpOp_plan rfl (by rfl) (fun K hK => ?_); go_simp; refine hK.out _ _ ?_; clear hK K)
          (refine PlanW.call rfl (by rfl) (fun K hK => ?_); go_simp; refine (tree_er (w.heap.size + 1) wr.drew hsv HX.out HU.out).mono ?_; rintro e w1 ⟨rfl, r⟩; unfold errV; have RE := Lib.hid (hBB.trans (r.mono (by omega))); clear r; go_simp)
          exact ⟨rfl, rfl, RE.out⟩
        · (refine wpOp_plan rfl (by rfl) (fun K hK => ?_); go_simp; refine (tree_er (w.heap.size + 1) wr.drew hsv HX.out HU.out).mono ?_; rintro e w1 ⟨rfl, r⟩; unfold errV; have RE := Lib.hid (hBB.trans (r.mono (by omega))); clear r; go_simp)
          exact ⟨rfl, rfl, RE.out⟩
      · have hlen := treeL_len hu
        have HU := Lib.hid hu
        obtain ⟨i0, hi0, hzz⟩ := Option.map_eq_some_iff.1 infoTree
        simp only [Prod.mk.injEq, Option.map_eq_some_iff] at hzz
        obtain ⟨⟨z6, hz0, hzs⟩, hz1, hz2⟩ := hzz
        have HR := Lib.hid hr
        clear hu hr
        obtain ⟨va, vc, rfl⟩ := row_form HO.out
        go_wp2_with fail
        refine region_plan (.take 0 (.take 2 (.two 1 3 (.one 3 (.one 4 (.one 5 (.take 6 (.one 7 .done))))) (.two 1 4 (.one 4 (.one 5 (.take 6 (.one 7 .done)))) (.one 1 (.one 5 (.take 6 (.one 7 .done)))))))) (by kernel_rfl) (by kernel_rfl) (by kernel_rfl) (by simp [Plan.depth]) (fun _ _ _ _ h => h) ?_
        (refine PlanW.free (v := ?_) rfl (by rfl) (fun W => ?_) ?_; rotate_left; (go_simp; with_reducible rfl); simp only [Act.put, List.setIfInBounds_toArray, List.set_cons_zero, List.set_cons_succ])
        (refine PlanW.free (v := ?_) rfl (by rfl) (fun W => ?_) ?_; rotate_left; (go_simp; with_reducible rfl); simp only [Act.put, List.setIfInBounds_toArray, List.set_cons_zero, List.set_cons_succ])
        refine ⟨?_, ?_⟩
        · (refine wpOp_plan rfl (by rfl) (fun K hK => ?_); go_simp; refine hK.out _ _ ?_; clear hK K)
          (refine PlanW.call rfl (by rfl) (fun K hK => ?_); go_simp; refine (tree_rd (w.heap.size + 1) wr.drew hsv HX.out HU.out).mono ?_; rintro e w1 ⟨rfl, r⟩; have k1 : w1.cell? ⟨(w.heap.size + 1 + 1), 0, none⟩ = some (.slice va front.length vc) := (cell_old r HK.out.lt (by omega)).trans (HK.out.cell 0); go_simp; refine hK.out _ _ ?_; clear hK K)
          (refine PlanW.call rfl (by rfl) (fun K hK => ?_); go_simp; refine hK.out _ _ ?_; clear hK K; have k2 := k1)
          (refine PlanW.call rfl (by rfl) (fun K hK => ?_); have hfr := HL.out; have bN := Box.new w1 #[.string u.tag, .int .i64 u.x, .int .i64 u.y, .int .i64 u.gl, .int .i64 u.gh, .int .i64 u.cr] 62; have hO1 := (ownsRow_rd (w := wr.drew) HO.out r (by omega)).alloc (.cells #[.string u.tag, .int .i64 u.x, .int .i64 u.y, .int .i64 u.gl, .int .i64 u.gh, .int .i64 u.cr] 62); refine wp_append_own _ (.tmp 40) (.tmp 43) 25 rfl (w.heap.size + 1 + 1 + 1) 62 i0 z6 6 56 Tryd.underlying25 hi0 hz0 hz1 hz2 hzs (by decide) (.slice va front.length vc) front.length (treeCells front) rfl hO1 ⟨w1.heap.size, 0, none⟩ 1 1 [.string u.tag, .int .i64 u.x, .int .i64 u.y, .int .i64 u.gl, .int .i64 u.gh, .int .i64 u.cr] rfl (by rfl) (fun j x hx => by rw [Addr.add_lit, Nat.zero_add, bN.cell]; simpa using hx) (by simp [Value.oneCell']) (by unfold maxLen; omega) (by omega) (by have := r.bel.size; simp at this ⊢; omega) ?_; intro v' w2 hown hgrow _; obtain ⟨va', vc', rfl⟩ := row_form hown; have hw1 := r.bel.size; simp only [World.size_drew] at hw1; have kb : Box w1 (w.heap.size + 1 + 1) #[.slice va front.length vc, .int .i64 lo, .int .i64 hi, .int .i64 pr, .int .i64 ne] 29 := (r.old _ HK.out.lt (by omega)).trans HK.out; have db : Box w1 w.heap.size #[.slice none 0 0, .int .i64 0, .int .i64 0, .int .i64 0, .int .i64 0] 29 := (r.old _ HD.out.lt (by omega)).trans HD.out; have kg := (kb.alloc (.cells #[.string u.tag, .int .i64 u.x, .int .i64 u.y, .int .i64 u.gl, .int .i64 u.gh, .int .i64 u.cr] 62)).grown hgrow hO1 (by omega); have dg := (db.alloc (.cells #[.string u.tag, .int .i64 u.x, .int .i64 u.y, .int .i64 u.gl, .int .i64 u.gh, .int .i64 u.cr] 62)).grown hgrow hO1 (by omega); obtain ⟨sx, xx, yx, zx⟩ := r.box; have xg := boxed_of (xx.alloc (.cells #[.string u.tag, .int .i64 u.x, .int .i64 u.y, .int .i64 u.gl, .int .i64 u.gh, .int .i64 u.cr] 62)) (hgrow.block (w.heap.size + 1) (by simp; omega) (row_not hO1 (by omega))); have c1 : w2.cell? ⟨(w.heap.size + 1 + 1), 0, none⟩ = some (.slice va front.length vc) := kg.cell 0; have f1 : w2.frozen? ⟨(w.heap.size + 1 + 1), 0, none⟩ = false := kg.free 0; have bg := ((HB.out.drew.trans (r.bel.mono (show w.heap.size ≤ (w.heap.size + 1) by omega))).alloc (by omega) (.cells #[.string u.tag, .int .i64 u.x, .int .i64 u.y, .int .i64 u.gl, .int .i64 u.gh, .int .i64 u.cr] 62)).grown hgrow (by simp; omega) (fun j ej => by have := row_ge hO1 j ej; omega); refine hK.out _ _ ?_; clear hK K; (refine PlanW.free (v := ?_) rfl (by rfl) (fun W => ?_) ?_; rotate_left; (go_simp; with_reducible rfl); simp only [Act.put, List.setIfInBounds_toArray, List.set_cons_zero, List.set_cons_succ]); refine PlanW.call rfl (by rfl) (fun K hK => ?_); go_simp; refine hK.out _ _ ?_; clear hK K; refine PlanW.end' ?_; go_wp2_with fail; go_roundg gk)
          case rel => exact ⟨front ++ [u], sx, .slice va' (front.length + 1) vc', Lib.hid (by rw [yx]; exact HR.out), Lib.hid (by rw [yx]; have := hlen.1; have := HLE.out; omega), Lib.hid (boxed_off xg (by omega) 0 _), zx, Lib.hid (by have := hlen.1; have := HL.out; have := congrArg List.length yx; rw [size_len] at *; rw [List.length_append, List.length_singleton]; omega), Lib.hid (by rw [treeCells_snoc, List.length_append, List.length_singleton]; exact ownsRow_setCell hown (by dsimp only; omega) _), Lib.hid (kg.set 0 _), Lib.hid (dg.other (by dsimp only; omega) _), Lib.hid (bg.setCell (by dsimp only; omega) _), by have := hgrow.size; simp at this ⊢; omega⟩
          case measure => omega
        · (refine wpOp_plan rfl (by rfl) (fun K hK => ?_); go_simp; refine (tree_rd (w.heap.size + 1) wr.drew hsv HX.out HU.out).mono ?_; rintro e w1 ⟨rfl, r⟩; have k1 : w1.cell? ⟨(w.heap.size + 1 + 1), 0, none⟩ = some (.slice va front.length vc) := (cell_old r HK.out.lt (by omega)).trans (HK.out.cell 0); go_simp; refine hK.out _ _ ?_; clear hK K)
          refine ⟨?_, ?_⟩
          · (refine wpOp_plan rfl (by rfl) (fun K hK => ?_); go_simp; refine hK.out _ _ ?_; clear hK K)
            (refine PlanW.call rfl (by rfl) (fun K hK => ?_); go_simp; refine hK.out _ _ ?_; clear hK K; have k2 := k1)
            (refine PlanW.call rfl (by rfl) (fun K hK => ?_); have hfr := HL.out; have bN := Box.new w1 #[.string u.tag, .int .i64 u.x, .int .i64 u.y, .int .i64 u.gl, .int .i64 u.gh, .int .i64 u.cr] 62; have hO1 := (ownsRow_rd (w := wr.drew) HO.out r (by omega)).alloc (.cells #[.string u.tag, .int .i64 u.x, .int .i64 u.y, .int .i64 u.gl, .int .i64 u.gh, .int .i64 u.cr] 62); refine wp_append_own _ (.tmp 40) (.tmp 43) 25 rfl (w.heap.size + 1 + 1 + 1) 62 i0 z6 6 56 Tryd.underlying25 hi0 hz0 hz1 hz2 hzs (by decide) (.slice va front.length vc) front.length (treeCells front) rfl hO1 ⟨w1.heap.size, 0, none⟩ 1 1 [.string u.tag, .int .i64 u.x, .int .i64 u.y, .int .i64 u.gl, .int .i64 u.gh, .int .i64 u.cr] rfl (by rfl) (fun j x hx => by rw [Addr.add_lit, Nat.zero_add, bN.cell]; simpa using hx) (by simp [Value.oneCell']) (by unfold maxLen; omega) (by omega) (by have := r.bel.size; simp at this ⊢; omega) ?_; intro v' w2 hown hgrow _; obtain ⟨va', vc', rfl⟩ := row_form hown; have hw1 := r.bel.size; simp only [World.size_drew] at hw1; have kb : Box w1 (w.heap.size + 1 + 1) #[.slice va front.length vc, .int .i64 lo, .int .i64 hi, .int .i64 pr, .int .i64 ne] 29 := (r.old _ HK.out.lt (by omega)).trans HK.out; have db : Box w1 w.heap.size #[.slice none 0 0, .int .i64 0, .int .i64 0, .int .i64 0, .int .i64 0] 29 := (r.old _ HD.out.lt (by omega)).trans HD.out; have kg := (kb.alloc (.cells #[.string u.tag, .int .i64 u.x, .int .i64 u.y, .int .i64 u.gl, .int .i64 u.gh, .int .i64 u.cr] 62)).grown hgrow hO1 (by omega); have dg := (db.alloc (.cells #[.string u.tag, .int .i64 u.x, .int .i64 u.y, .int .i64 u.gl, .int .i64 u.gh, .int .i64 u.cr] 62)).grown hgrow hO1 (by omega); obtain ⟨sx, xx, yx, zx⟩ := r.box; have xg := boxed_of (xx.alloc (.cells #[.string u.tag, .int .i64 u.x, .int .i64 u.y, .int .i64 u.gl, .int .i64 u.gh, .int .i64 u.cr] 62)) (hgrow.block (w.heap.size + 1) (by simp; omega) (row_not hO1 (by omega))); have c1 : w2.cell? ⟨(w.heap.size + 1 + 1), 0, none⟩ = some (.slice va front.length vc) := kg.cell 0; have f1 : w2.frozen? ⟨(w.heap.size + 1 + 1), 0, none⟩ = false := kg.free 0; have bg := ((HB.out.drew.trans (r.bel.mono (show w.heap.size ≤ (w.heap.size + 1) by omega))).alloc (by omega) (.cells #[.string u.tag, .int .i64 u.x, .int .i64 u.y, .int .i64 u.gl, .int .i64 u.gh, .int .i64 u.cr] 62)).grown hgrow (by simp; omega) (fun j ej => by have := row_ge hO1 j ej; omega); refine hK.out _ _ ?_; clear hK K; (refine PlanW.free (v := ?_) rfl (by rfl) (fun W => ?_) ?_; rotate_left; (go_simp; with_reducible rfl); simp only [Act.put, List.setIfInBounds_toArray, List.set_cons_zero, List.set_cons_succ]); refine PlanW.call rfl (by rfl) (fun K hK => ?_); go_simp; refine hK.out _ _ ?_; clear hK K; refine PlanW.end' ?_; go_wp2_with fail; go_roundg gk)
            case rel => exact ⟨front ++ [u], sx, .slice va' (front.length + 1) vc', Lib.hid (by rw [yx]; exact HR.out), Lib.hid (by rw [yx]; have := hlen.1; have := HLE.out; omega), Lib.hid (boxed_off xg (by omega) 0 _), zx, Lib.hid (by have := hlen.1; have := HL.out; have := congrArg List.length yx; rw [size_len] at *; rw [List.length_append, List.length_singleton]; omega), Lib.hid (by rw [treeCells_snoc, List.length_append, List.length_singleton]; exact ownsRow_setCell hown (by dsimp only; omega) _), Lib.hid (kg.set 0 _), Lib.hid (dg.other (by dsimp only; omega) _), Lib.hid (bg.setCell (by dsimp only; omega) _), by have := hgrow.size; simp at this ⊢; omega⟩
            case measure => omega
          · (refine wpOp_plan rfl (by rfl) (fun K hK => ?_); go_simp; refine hK.out _ _ ?_; clear hK K)
            (have k2 : (w1.alloc (.cells #[.string u.tag, .int .i64 u.x, .int .i64 u.y, .int .i64 u.gl, .int .i64 u.gh, .int .i64 u.cr] 62)).cell? ⟨(w.heap.size + 1 + 1), 0, none⟩ = some (.slice va front.length vc) := (cell_alloc (by have := r.bel.size; simp at this; omega) _).trans k1; refine PlanW.call rfl (by rfl) (fun K hK => ?_); go_simp; refine hK.out _ _ ?_; clear hK K)
            (refine PlanW.call rfl (by rfl) (fun K hK => ?_); have hfr := HL.out; have bN := Box.new w1 #[.string u.tag, .int .i64 u.x, .int .i64 u.y, .int .i64 u.gl, .int .i64 u.gh, .int .i64 u.cr] 62; have hO1 := (ownsRow_rd (w := wr.drew) HO.out r (by omega)).alloc (.cells #[.string u.tag, .int .i64 u.x, .int .i64 u.y, .int .i64 u.gl, .int .i64 u.gh, .int .i64 u.cr] 62); refine wp_append_own _ (.tmp 40) (.tmp 43) 25 rfl (w.heap.size + 1 + 1 + 1) 62 i0 z6 6 56 Tryd.underlying25 hi0 hz0 hz1 hz2 hzs (by decide) (.slice va front.length vc) front.length (treeCells front) rfl hO1 ⟨w1.heap.size, 0, none⟩ 1 1 [.string u.tag, .int .i64 u.x, .int .i64 u.y, .int .i64 u.gl, .int .i64 u.gh, .int .i64 u.cr] rfl (by rfl) (fun j x hx => by rw [Addr.add_lit, Nat.zero_add, bN.cell]; simpa using hx) (by simp [Value.oneCell']) (by unfold maxLen; omega) (by omega) (by have := r.bel.size; simp at this ⊢; omega) ?_; intro v' w2 hown hgrow _; obtain ⟨va', vc', rfl⟩ := row_form hown; have hw1 := r.bel.size; simp only [World.size_drew] at hw1; have kb : Box w1 (w.heap.size + 1 + 1) #[.slice va front.length vc, .int .i64 lo, .int .i64 hi, .int .i64 pr, .int .i64 ne] 29 := (r.old _ HK.out.lt (by omega)).trans HK.out; have db : Box w1 w.heap.size #[.slice none 0 0, .int .i64 0, .int .i64 0, .int .i64 0, .int .i64 0] 29 := (r.old _ HD.out.lt (by omega)).trans HD.out; have kg := (kb.alloc (.cells #[.string u.tag, .int .i64 u.x, .int .i64 u.y, .int .i64 u.gl, .int .i64 u.gh, .int .i64 u.cr] 62)).grown hgrow hO1 (by omega); have dg := (db.alloc (.cells #[.string u.tag, .int .i64 u.x, .int .i64 u.y, .int .i64 u.gl, .int .i64 u.gh, .int .i64 u.cr] 62)).grown hgrow hO1 (by omega); obtain ⟨sx, xx, yx, zx⟩ := r.box; have xg := boxed_of (xx.alloc (.cells #[.string u.tag, .int .i64 u.x, .int .i64 u.y, .int .i64 u.gl, .int .i64 u.gh, .int .i64 u.cr] 62)) (hgrow.block (w.heap.size + 1) (by simp; omega) (row_not hO1 (by omega))); have c1 : w2.cell? ⟨(w.heap.size + 1 + 1), 0, none⟩ = some (.slice va front.length vc) := kg.cell 0; have f1 : w2.frozen? ⟨(w.heap.size + 1 + 1), 0, none⟩ = false := kg.free 0; have bg := ((HB.out.drew.trans (r.bel.mono (show w.heap.size ≤ (w.heap.size + 1) by omega))).alloc (by omega) (.cells #[.string u.tag, .int .i64 u.x, .int .i64 u.y, .int .i64 u.gl, .int .i64 u.gh, .int .i64 u.cr] 62)).grown hgrow (by simp; omega) (fun j ej => by have := row_ge hO1 j ej; omega); refine hK.out _ _ ?_; clear hK K; (refine PlanW.free (v := ?_) rfl (by rfl) (fun W => ?_) ?_; rotate_left; (go_simp; with_reducible rfl); simp only [Act.put, List.setIfInBounds_toArray, List.set_cons_zero, List.set_cons_succ]); refine PlanW.call rfl (by rfl) (fun K hK => ?_); go_simp; refine hK.out _ _ ?_; clear hK K; refine PlanW.end' ?_; go_wp2_with fail; go_roundg gk)
            case rel => exact ⟨front ++ [u], sx, .slice va' (front.length + 1) vc', Lib.hid (by rw [yx]; exact HR.out), Lib.hid (by rw [yx]; have := hlen.1; have := HLE.out; omega), Lib.hid (boxed_off xg (by omega) 0 _), zx, Lib.hid (by have := hlen.1; have := HL.out; have := congrArg List.length yx; rw [size_len] at *; rw [List.length_append, List.length_singleton]; omega), Lib.hid (by rw [treeCells_snoc, List.length_append, List.length_singleton]; exact ownsRow_setCell hown (by dsimp only; omega) _), Lib.hid (kg.set 0 _), Lib.hid (dg.other (by dsimp only; omega) _), Lib.hid (bg.setCell (by dsimp only; omega) _), by have := hgrow.size; simp at this ⊢; omega⟩
            case measure => omega
/-- Whatever keeps the text from being read: readStand panics. -/
theorem readStand_er {s : ByteArray} (w : World) (hs : s.size ≤ 65536) (h : readL s.data.toList = none) :
    Calls Tryd.prog 87 #[.string s] w fun e w' => e = errV ∧ Below w.heap.size w w' := by
  unfold readL at h
  rcases e1 : expL [115, 116, 97, 110, 100, 32, 103, 114, 111, 119, 32] s.data.toList with _ | L1
  · exact readStand_er1 w hs e1
  simp only [e1, Option.bind_some] at h
  rcases e2 : spanL L1 with _ | ⟨⟨lo, hi⟩, L2⟩
  · exact readStand_er2 w hs e1 e2
  simp only [e2, Option.bind_some] at h
  rcases e3 : expL [32, 112, 114, 101, 115, 115, 32] L2 with _ | L3
  · exact readStand_er3 w hs e1 e2 e3
  simp only [e3, Option.bind_some] at h
  rcases e4 : numL L3 with _ | ⟨pr, L4⟩
  · exact readStand_er4 w hs e1 e2 e3 e4
  simp only [e4, Option.bind_some] at h
  rcases e5 : expL [32, 110, 101, 97, 114, 32] L4 with _ | L5
  · exact readStand_er5 w hs e1 e2 e3 e4 e5
  simp only [e5, Option.bind_some] at h
  rcases e6 : numL L5 with _ | ⟨ne, L6⟩
  · exact readStand_er6 w hs e1 e2 e3 e4 e5 e6
  simp only [e6, Option.bind_some] at h
  rcases e7 : expL [10] L6 with _ | L7
  · exact readStand_er7 w hs e1 e2 e3 e4 e5 e6 e7
  simp only [e7, Option.bind_some] at h
  rcases e8 : treesL L7.length L7 with _ | ts
  · exact readStand_er8 w hs e1 e2 e3 e4 e5 e6 e7 e8
  · rw [e8] at h; cases h
end Go.Proofs.YtpkjjiieglebbaaDoor
