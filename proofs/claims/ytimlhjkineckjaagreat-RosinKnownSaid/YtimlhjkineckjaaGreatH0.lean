/- rosin.mostGrades at the first part of the chapter's example, for a test that may be wrong by 0: what it comes to, reckoned on the shadow, its loop in pieces. Conditions: none. -/
import Derived.Test.YtimlhjkineckjaaGreatProg
import Derived.Test.YtimlhjkineckjaaGreatYD
import Derived.KernelRfl
namespace Go.Proofs.YtimlhjkineckjaaGreat
open Go Go.RowKit
noncomputable def H0x : Ent := { g := 73, args := [.slice (some ⟨0, 0, some 1⟩) 2 0, .int .i64 0], mem := [(161, [.int .i64 295, .int .i64 300, .int .u64 1, .int .i64 301, .int .i64 325, .int .u64 2])], v := .int .i64 1, res := none }
noncomputable def H0s0 : St := { ts := [.slice (some ⟨0, 0, some 1⟩) 2 0, .int .i64 0, .tuple ⟨[]⟩, .tuple ⟨[]⟩, .int .i64 0, .int .i64 0, .tuple ⟨[]⟩, .tuple ⟨[]⟩, .int .i64 0, .tuple ⟨[]⟩, .tuple ⟨[]⟩, .tuple ⟨[]⟩, .tuple ⟨[]⟩, .tuple ⟨[]⟩, .tuple ⟨[]⟩, .tuple ⟨[]⟩, .tuple ⟨[]⟩, .tuple ⟨[]⟩, .tuple ⟨[]⟩, .tuple ⟨[]⟩, .tuple ⟨[]⟩, .tuple ⟨[]⟩, .tuple ⟨[]⟩, .tuple ⟨[]⟩, .tuple ⟨[]⟩, .tuple ⟨[]⟩], ds := [], next := 1, rows := [(0, .row 161 [.int .i64 295, .int .i64 300, .int .u64 1, .int .i64 301, .int .i64 325, .int .u64 2] 0)], kin := [] }
noncomputable def H0s1 : St := { ts := [.slice (some ⟨0, 0, some 1⟩) 2 0, .int .i64 0, .tuple ⟨[]⟩, .tuple ⟨[]⟩, .int .i64 0, .int .i64 1, .int .i64 666, .int .u64 0, .int .i64 667, .bool true, .int .i64 666, .slice (some ⟨0, 0, some 1⟩) 2 0, .int .i64 666, .int .i64 0, .int .i64 666, .int .i64 666, .int .i64 0, .int .i64 666, .agg ⟨[.int .i64 666, .int .i64 666]⟩, .int .u64 0, .int .i64 1, .int .u64 0, .int .i64 0, .int .i64 1, .int .i64 667, .tuple ⟨[]⟩], ds := [], next := 2002, rows := [(0, .row 161 [.int .i64 295, .int .i64 300, .int .u64 1, .int .i64 301, .int .i64 325, .int .u64 2] 0)], kin := [] }
noncomputable def H0s2 : St := { ts := [.slice (some ⟨0, 0, some 1⟩) 2 0, .int .i64 0, .tuple ⟨[]⟩, .tuple ⟨[]⟩, .int .i64 0, .int .i64 1, .int .i64 1333, .int .u64 0, .int .i64 1334, .bool true, .int .i64 1333, .slice (some ⟨0, 0, some 1⟩) 2 0, .int .i64 1333, .int .i64 0, .int .i64 1333, .int .i64 1333, .int .i64 0, .int .i64 1333, .agg ⟨[.int .i64 1333, .int .i64 1333]⟩, .int .u64 0, .int .i64 1, .int .u64 0, .int .i64 0, .int .i64 1, .int .i64 1334, .tuple ⟨[]⟩], ds := [], next := 4003, rows := [(0, .row 161 [.int .i64 295, .int .i64 300, .int .u64 1, .int .i64 301, .int .i64 325, .int .u64 2] 0)], kin := [] }
noncomputable def H0z : St := { ts := [.slice (some ⟨0, 0, some 1⟩) 2 0, .int .i64 0, .tuple ⟨[]⟩, .tuple ⟨[]⟩, .int .i64 0, .int .i64 1, .int .i64 2000, .int .u64 0, .int .i64 2001, .bool false, .int .i64 2000, .slice (some ⟨0, 0, some 1⟩) 2 0, .int .i64 2000, .int .i64 0, .int .i64 2000, .int .i64 2000, .int .i64 0, .int .i64 2000, .agg ⟨[.int .i64 2000, .int .i64 2000]⟩, .int .u64 0, .int .i64 1, .int .u64 0, .int .i64 0, .int .i64 1, .int .i64 2001, .tuple ⟨[]⟩], ds := [], next := 6004, rows := [(0, .row 161 [.int .i64 295, .int .i64 300, .int .u64 1, .int .i64 301, .int .i64 325, .int .u64 2] 0)], kin := [] }
set_option maxRecDepth 1000000 in
theorem H0p0_run : @roundsW ⟨[], []⟩ Tryz.prog [] (@exec ⟨[], []⟩ Tryz.prog [] 3000) (bodyLoop Tryz.prog H0x.g 0) (List.range H0x.mem.length) 667 H0s0.fr H0s0.ds H0s0.sh (fun ts ds h => cond (okSt H0s1 ts ds h) (some (.bool true)) none) = some (.bool true) := by kernel_rfl
theorem H0p0_ok : LoopR Tryz.prog [] (List.range H0x.mem.length) (bodyLoop Tryz.prog H0x.g 0) H0s0 H0s1 := piece_ok null_nil ent_nil H0p0_run
set_option maxRecDepth 1000000 in
theorem H0p1_run : @roundsW ⟨[], []⟩ Tryz.prog [] (@exec ⟨[], []⟩ Tryz.prog [] 3000) (bodyLoop Tryz.prog H0x.g 0) (List.range H0x.mem.length) 667 H0s1.fr H0s1.ds H0s1.sh (fun ts ds h => cond (okSt H0s2 ts ds h) (some (.bool true)) none) = some (.bool true) := by kernel_rfl
theorem H0p1_ok : LoopR Tryz.prog [] (List.range H0x.mem.length) (bodyLoop Tryz.prog H0x.g 0) H0s1 H0s2 := piece_ok null_nil ent_nil H0p1_run
set_option maxRecDepth 1000000 in
theorem H0_last : @exec ⟨[], []⟩ Tryz.prog [] 3000 none (List.range H0x.mem.length) (.loop (bodyLoop Tryz.prog H0x.g 0)) H0s2.fr H0s2.ds H0s2.sh (fun e ts ds h => cond (eqSE e (.exit 0) && okSt H0z ts ds h) (some (.bool true)) none) = some (.bool true) := by kernel_rfl
theorem H0_cut : CutR Tryz.prog (List.range H0x.mem.length) (bodyLoop Tryz.prog H0x.g 0) ⟨0, H0s0, .exit 0, H0z⟩ := LoopE.cut (H0p0_ok.then (H0p1_ok.then (last_ok null_nil ent_nil H0_last)))
set_option maxRecDepth 1000000 in
theorem H0_run : @runEC ⟨[], []⟩ Tryz.prog 3000 [⟨0, H0s0, .exit 0, H0z⟩] 0 H0x = some (.tuple ⟨endOf 0 H0x :: resOf H0x⟩) := by kernel_rfl
theorem H0_ent : EntR Tryz.prog H0x := ent_okC null_nil ent_nil (fun q hq => by
  obtain rfl := List.mem_singleton.1 hq
  exact H0_cut) (by kernel_rfl) H0_run
end Go.Proofs.YtimlhjkineckjaaGreat
