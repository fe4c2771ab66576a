/- rosin.mostGrades at the first part of the chapter's example, for a test that may be wrong by 5: what it comes to, reckoned on the shadow, its loop in pieces. Conditions: none. -/
import Derived.Test.YtimlhjkineckjaaGreatProg
import Derived.Test.YtimlhjkineckjaaGreatYD
import Derived.KernelRfl
namespace Go.Proofs.YtimlhjkineckjaaGreat
open Go Go.RowKit
noncomputable def G0x : Ent := { g := 73, args := [.slice (some ⟨0, 0, some 1⟩) 2 0, .int .i64 5], mem := [(161, [.int .i64 295, .int .i64 300, .int .u64 1, .int .i64 301, .int .i64 325, .int .u64 2])], v := .int .i64 2, res := none }
noncomputable def G0s0 : St := { ts := [.slice (some ⟨0, 0, some 1⟩) 2 0, .int .i64 5, .tuple ⟨[]⟩, .tuple ⟨[]⟩, .int .i64 0, .int .i64 0, .tuple ⟨[]⟩, .tuple ⟨[]⟩, .int .i64 0, .tuple ⟨[]⟩, .tuple ⟨[]⟩, .tuple ⟨[]⟩, .tuple ⟨[]⟩, .tuple ⟨[]⟩, .tuple ⟨[]⟩, .tuple ⟨[]⟩, .tuple ⟨[]⟩, .tuple ⟨[]⟩, .tuple ⟨[]⟩, .tuple ⟨[]⟩, .tuple ⟨[]⟩, .tuple ⟨[]⟩, .tuple ⟨[]⟩, .tuple ⟨[]⟩, .tuple ⟨[]⟩, .tuple ⟨[]⟩], ds := [], next := 1, rows := [(0, .row 161 [.int .i64 295, .int .i64 300, .int .u64 1, .int .i64 301, .int .i64 325, .int .u64 2] 0)], kin := [] }
noncomputable def G0s1 : St := { ts := [.slice (some ⟨0, 0, some 1⟩) 2 0, .int .i64 5, .tuple ⟨[]⟩, .tuple ⟨[]⟩, .int .i64 0, .int .i64 2, .int .i64 666, .int .u64 0, .int .i64 667, .bool true, .int .i64 666, .slice (some ⟨0, 0, some 1⟩) 2 0, .int .i64 666, .int .i64 5, .int .i64 661, .int .i64 666, .int .i64 5, .int .i64 671, .agg ⟨[.int .i64 661, .int .i64 671]⟩, .int .u64 0, .int .i64 2, .int .u64 0, .int .i64 0, .int .i64 2, .int .i64 667, .tuple ⟨[]⟩], ds := [], next := 2002, rows := [(0, .row 161 [.int .i64 295, .int .i64 300, .int .u64 1, .int .i64 301, .int .i64 325, .int .u64 2] 0)], kin := [] }
noncomputable def G0s2 : St := { ts := [.slice (some ⟨0, 0, some 1⟩) 2 0, .int .i64 5, .tuple ⟨[]⟩, .tuple ⟨[]⟩, .int .i64 0, .int .i64 2, .int .i64 1333, .int .u64 0, .int .i64 1334, .bool true, .int .i64 1333, .slice (some ⟨0, 0, some 1⟩) 2 0, .int .i64 1333, .int .i64 5, .int .i64 1328, .int .i64 1333, .int .i64 5, .int .i64 1338, .agg ⟨[.int .i64 1328, .int .i64 1338]⟩, .int .u64 0, .int .i64 2, .int .u64 0, .int .i64 0, .int .i64 2, .int .i64 1334, .tuple ⟨[]⟩], ds := [], next := 4003, rows := [(0, .row 161 [.int .i64 295, .int .i64 300, .int .u64 1, .int .i64 301, .int .i64 325, .int .u64 2] 0)], kin := [] }
noncomputable def G0z : St := { ts := [.slice (some ⟨0, 0, some 1⟩) 2 0, .int .i64 5, .tuple ⟨[]⟩, .tuple ⟨[]⟩, .int .i64 0, .int .i64 2, .int .i64 2000, .int .u64 0, .int .i64 2001, .bool false, .int .i64 2000, .slice (some ⟨0, 0, some 1⟩) 2 0, .int .i64 2000, .int .i64 5, .int .i64 1995, .int .i64 2000, .int .i64 5, .int .i64 2005, .agg ⟨[.int .i64 1995, .int .i64 2005]⟩, .int .u64 0, .int .i64 2, .int .u64 0, .int .i64 0, .int .i64 2, .int .i64 2001, .tuple ⟨[]⟩], ds := [], next := 6004, rows := [(0, .row 161 [.int .i64 295, .int .i64 300, .int .u64 1, .int .i64 301, .int .i64 325, .int .u64 2] 0)], kin := [] }
set_option maxRecDepth 1000000 in
theorem G0p0_run : @roundsW ⟨[], []⟩ Tryz.prog [] (@exec ⟨[], []⟩ Tryz.prog [] 3000) (bodyLoop Tryz.prog G0x.g 0) (List.range G0x.mem.length) 667 G0s0.fr G0s0.ds G0s0.sh (fun ts ds h => cond (okSt G0s1 ts ds h) (some (.bool true)) none) = some (.bool true) := by kernel_rfl
theorem G0p0_ok : LoopR Tryz.prog [] (List.range G0x.mem.length) (bodyLoop Tryz.prog G0x.g 0) G0s0 G0s1 := piece_ok null_nil ent_nil G0p0_run
set_option maxRecDepth 1000000 in
theorem G0p1_run : @roundsW ⟨[], []⟩ Tryz.prog [] (@exec ⟨[], []⟩ Tryz.prog [] 3000) (bodyLoop Tryz.prog G0x.g 0) (List.range G0x.mem.length) 667 G0s1.fr G0s1.ds G0s1.sh (fun ts ds h => cond (okSt G0s2 ts ds h) (some (.bool true)) none) = some (.bool true) := by kernel_rfl
theorem G0p1_ok : LoopR Tryz.prog [] (List.range G0x.mem.length) (bodyLoop Tryz.prog G0x.g 0) G0s1 G0s2 := piece_ok null_nil ent_nil G0p1_run
set_option maxRecDepth 1000000 in
theorem G0_last : @exec ⟨[], []⟩ Tryz.prog [] 3000 none (List.range G0x.mem.length) (.loop (bodyLoop Tryz.prog G0x.g 0)) G0s2.fr G0s2.ds G0s2.sh (fun e ts ds h => cond (eqSE e (.exit 0) && okSt G0z ts ds h) (some (.bool true)) none) = some (.bool true) := by kernel_rfl
theorem G0_cut : CutR Tryz.prog (List.range G0x.mem.length) (bodyLoop Tryz.prog G0x.g 0) ⟨0, G0s0, .exit 0, G0z⟩ := LoopE.cut (G0p0_ok.then (G0p1_ok.then (last_ok null_nil ent_nil G0_last)))
set_option maxRecDepth 1000000 in
theorem G0_run : @runEC ⟨[], []⟩ Tryz.prog 3000 [⟨0, G0s0, .exit 0, G0z⟩] 0 G0x = some (.tuple ⟨endOf 0 G0x :: resOf G0x⟩) := by kernel_rfl
theorem G0_ent : EntR Tryz.prog G0x := ent_okC null_nil ent_nil (fun q hq => by
  obtain rfl := List.mem_singleton.1 hq
  exact G0_cut) (by kernel_rfl) G0_run
end Go.Proofs.YtimlhjkineckjaaGreat
