/- rosin.mostGrades at the third part of the chapter's example, for a test that may be wrong by 5: what it comes to, reckoned on the shadow, its loop in pieces. Conditions: none. -/
import Derived.Test.YtimlhjkineckjaaGreatProg
import Derived.Test.YtimlhjkineckjaaGreatYD
import Derived.KernelRfl
namespace Go.Proofs.YtimlhjkineckjaaGreat
open Go Go.RowKit
noncomputable def G2x : Ent := { g := 73, args := [.slice (some ⟨0, 0, some 1⟩) 1 0, .int .i64 5], mem := [(161, [.int .i64 162, .int .i64 168, .int .u64 3])], v := .int .i64 2, res := none }
noncomputable def G2s0 : St := { ts := [.slice (some ⟨0, 0, some 1⟩) 1 0, .int .i64 5, .tuple ⟨[]⟩, .tuple ⟨[]⟩, .int .i64 0, .int .i64 0, .tuple ⟨[]⟩, .tuple ⟨[]⟩, .int .i64 0, .tuple ⟨[]⟩, .tuple ⟨[]⟩, .tuple ⟨[]⟩, .tuple ⟨[]⟩, .tuple ⟨[]⟩, .tuple ⟨[]⟩, .tuple ⟨[]⟩, .tuple ⟨[]⟩, .tuple ⟨[]⟩, .tuple ⟨[]⟩, .tuple ⟨[]⟩, .tuple ⟨[]⟩, .tuple ⟨[]⟩, .tuple ⟨[]⟩, .tuple ⟨[]⟩, .tuple ⟨[]⟩, .tuple ⟨[]⟩], ds := [], next := 1, rows := [(0, .row 161 [.int .i64 162, .int .i64 168, .int .u64 3] 0)], kin := [] }
noncomputable def G2s1 : St := { ts := [.slice (some ⟨0, 0, some 1⟩) 1 0, .int .i64 5, .tuple ⟨[]⟩, .tuple ⟨[]⟩, .int .i64 0, .int .i64 2, .int .i64 666, .int .u64 0, .int .i64 667, .bool true, .int .i64 666, .slice (some ⟨0, 0, some 1⟩) 1 0, .int .i64 666, .int .i64 5, .int .i64 661, .int .i64 666, .int .i64 5, .int .i64 671, .agg ⟨[.int .i64 661, .int .i64 671]⟩, .int .u64 0, .int .i64 2, .int .u64 0, .int .i64 0, .int .i64 2, .int .i64 667, .tuple ⟨[]⟩], ds := [], next := 1335, rows := [(0, .row 161 [.int .i64 162, .int .i64 168, .int .u64 3] 0)], kin := [] }
noncomputable def G2s2 : St := { ts := [.slice (some ⟨0, 0, some 1⟩) 1 0, .int .i64 5, .tuple ⟨[]⟩, .tuple ⟨[]⟩, .int .i64 0, .int .i64 2, .int .i64 1333, .int .u64 0, .int .i64 1334, .bool true, .int .i64 1333, .slice (some ⟨0, 0, some 1⟩) 1 0, .int .i64 1333, .int .i64 5, .int .i64 1328, .int .i64 1333, .int .i64 5, .int .i64 1338, .agg ⟨[.int .i64 1328, .int .i64 1338]⟩, .int .u64 0, .int .i64 2, .int .u64 0, .int .i64 0, .int .i64 2, .int .i64 1334, .tuple ⟨[]⟩], ds := [], next := 2669, rows := [(0, .row 161 [.int .i64 162, .int .i64 168, .int .u64 3] 0)], kin := [] }
noncomputable def G2z : St := { ts := [.slice (some ⟨0, 0, some 1⟩) 1 0, .int .i64 5, .tuple ⟨[]⟩, .tuple ⟨[]⟩, .int .i64 0, .int .i64 2, .int .i64 2000, .int .u64 0, .int .i64 2001, .bool false, .int .i64 2000, .slice (some ⟨0, 0, some 1⟩) 1 0, .int .i64 2000, .int .i64 5, .int .i64 1995, .int .i64 2000, .int .i64 5, .int .i64 2005, .agg ⟨[.int .i64 1995, .int .i64 2005]⟩, .int .u64 0, .int .i64 2, .int .u64 0, .int .i64 0, .int .i64 2, .int .i64 2001, .tuple ⟨[]⟩], ds := [], next := 4003, rows := [(0, .row 161 [.int .i64 162, .int .i64 168, .int .u64 3] 0)], kin := [] }
set_option maxRecDepth 1000000 in
theorem G2p0_run : @roundsW ⟨[], []⟩ Tryz.prog [] (@exec ⟨[], []⟩ Tryz.prog [] 3000) (bodyLoop Tryz.prog G2x.g 0) (List.range G2x.mem.length) 667 G2s0.fr G2s0.ds G2s0.sh (fun ts ds h => cond (okSt G2s1 ts ds h) (some (.bool true)) none) = some (.bool true) := by kernel_rfl
theorem G2p0_ok : LoopR Tryz.prog [] (List.range G2x.mem.length) (bodyLoop Tryz.prog G2x.g 0) G2s0 G2s1 := piece_ok null_nil ent_nil G2p0_run
set_option maxRecDepth 1000000 in
theorem G2p1_run : @roundsW ⟨[], []⟩ Tryz.prog [] (@exec ⟨[], []⟩ Tryz.prog [] 3000) (bodyLoop Tryz.prog G2x.g 0) (List.range G2x.mem.length) 667 G2s1.fr G2s1.ds G2s1.sh (fun ts ds h => cond (okSt G2s2 ts ds h) (some (.bool true)) none) = some (.bool true) := by kernel_rfl
theorem G2p1_ok : LoopR Tryz.prog [] (List.range G2x.mem.length) (bodyLoop Tryz.prog G2x.g 0) G2s1 G2s2 := piece_ok null_nil ent_nil G2p1_run
set_option maxRecDepth 1000000 in
theorem G2_last : @exec ⟨[], []⟩ Tryz.prog [] 3000 none (List.range G2x.mem.length) (.loop (bodyLoop Tryz.prog G2x.g 0)) G2s2.fr G2s2.ds G2s2.sh (fun e ts ds h => cond (eqSE e (.exit 0) && okSt G2z ts ds h) (some (.bool true)) none) = some (.bool true) := by kernel_rfl
theorem G2_cut : CutR Tryz.prog (List.range G2x.mem.length) (bodyLoop Tryz.prog G2x.g 0) ⟨0, G2s0, .exit 0, G2z⟩ := LoopE.cut (G2p0_ok.then (G2p1_ok.then (last_ok null_nil ent_nil G2_last)))
set_option maxRecDepth 1000000 in
theorem G2_run : @runEC ⟨[], []⟩ Tryz.prog 3000 [⟨0, G2s0, .exit 0, G2z⟩] 0 G2x = some (.tuple ⟨endOf 0 G2x :: resOf G2x⟩) := by kernel_rfl
theorem G2_ent : EntR Tryz.prog G2x := ent_okC null_nil ent_nil (fun q hq => by
  obtain rfl := List.mem_singleton.1 hq
  exact G2_cut) (by kernel_rfl) G2_run
end Go.Proofs.YtimlhjkineckjaaGreat
