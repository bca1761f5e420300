/-
  No cell of these rows narrows 'for every input' (looked for: loops, veiled, ifaces, maps, wideKeys, modest, calm, conditions, laid).
  DERIVED. THE GIVEN ROWS OF THIS SEAT. 11 by the template 'for every input the law returns true; each argument reads behind the call as it read before'; 0 by the template 'total and deterministic' (their statements: YtcadpoknolefpaaGreatTotals.lean).
  GIVEN WITH THE SEED: the statements are not yours to turn. If you find one false, say at which input.
  Laid BY PROGRAM, IN A SANDBOX (cutbox-rows.mjs): the forced cells as the released guide's own fill.sh prints them over the translation 4b4df0c12ad9097e… (all of the seat's roots in one cut). By AI agents, Wed Nov 11 2026. No macro, syntax, notation, axiom, sorry.
-/
import Derived.Test.YtcadpoknolefpaaGreatChecked
import GoSem.Claim
import GoSem.ClaimJoined
import GoSem.ClaimMapViews
import Derived.JoinedTies
import Derived.KernelRfl
namespace Go.Proofs.YtcadpoknolefpaaGreat
/- THE CELL 'sum', in the pinned program and in every row, IS THE sha256 OF THE DUMP (.gsa) THAT YtcadpoknolefpaaGreatProg.lean LOADS. Nothing in Lean hashes anything: it is a label: what it is worth is what the hold of that sum in a sandbox is worth. -/
noncomputable def Tryz.pinned : Pinned := { name := "ytcadpoknolefpaagreat", sum := "4b4df0c12ad9097e767a3cf005f122d9691b36a4cc6d5ac2b49ab312ef68f5a6", checked := Tryz.checked }
namespace Rows
def none {H : Type} : Left H := { results := [], args := [] }

/-- 'mizzenlaw.MachineTells': WHATEVER THE INPUT: true; the input reads as it did. -/
def machineTellsSpec : ChangeSpec := { name := "machineTells", fn := fun _ => fun
  | [d1, d2] => { results := [.lit (.bool true)], args := [d1, d2] }
  | _ => none }
def machineTellsRow : OpenClaim := { program := "ytcadpoknolefpaagreat", sum := "4b4df0c12ad9097e767a3cf005f122d9691b36a4cc6d5ac2b49ab312ef68f5a6", func := "mizzen/mizzenlaw.MachineTells", spec := "machineTells", inPlace := ["internal/abi.NoEscape", "internal/bytealg.MakeNoZero"], unfollowed := true, recurses := true, apart := false }
def MachineTellsSaid : Prop := machineTellsRow.holds Tryz.pinned (OpenSpec.ofChange machineTellsSpec)

/-- ITS FALSE NEIGHBOUR: 'it returns false'. Refute it at one input. -/
def machineTellsWrong : ChangeSpec := { name := "machineTells", fn := fun _ => fun
  | [d1, d2] => { results := [.lit (.bool false)], args := [d1, d2] }
  | _ => none }
def MachineTellsWrongFalsely : Prop := machineTellsRow.holds Tryz.pinned (OpenSpec.ofChange machineTellsWrong)

/-- 'mizzenlaw.MachineRight': WHATEVER THE INPUT: true; the input reads as it did. -/
def machineRightSpec : ChangeSpec := { name := "machineRight", fn := fun _ => fun
  | [d1, d2] => { results := [.lit (.bool true)], args := [d1, d2] }
  | _ => none }
def machineRightRow : OpenClaim := { program := "ytcadpoknolefpaagreat", sum := "4b4df0c12ad9097e767a3cf005f122d9691b36a4cc6d5ac2b49ab312ef68f5a6", func := "mizzen/mizzenlaw.MachineRight", spec := "machineRight", inPlace := ["internal/abi.NoEscape", "internal/bytealg.MakeNoZero"], unfollowed := true, recurses := true, apart := false }
def MachineRightSaid : Prop := machineRightRow.holds Tryz.pinned (OpenSpec.ofChange machineRightSpec)

/-- ITS FALSE NEIGHBOUR: 'it returns false'. Refute it at one input. -/
def machineRightWrong : ChangeSpec := { name := "machineRight", fn := fun _ => fun
  | [d1, d2] => { results := [.lit (.bool false)], args := [d1, d2] }
  | _ => none }
def MachineRightWrongFalsely : Prop := machineRightRow.holds Tryz.pinned (OpenSpec.ofChange machineRightWrong)

/-- 'mizzenlaw.MachineOuter': WHATEVER THE INPUT: true; the input reads as it did. -/
def machineOuterSpec : ChangeSpec := { name := "machineOuter", fn := fun _ => fun
  | [d1, d2] => { results := [.lit (.bool true)], args := [d1, d2] }
  | _ => none }
def machineOuterRow : OpenClaim := { program := "ytcadpoknolefpaagreat", sum := "4b4df0c12ad9097e767a3cf005f122d9691b36a4cc6d5ac2b49ab312ef68f5a6", func := "mizzen/mizzenlaw.MachineOuter", spec := "machineOuter", inPlace := ["internal/abi.NoEscape", "internal/bytealg.MakeNoZero"], unfollowed := true, recurses := true, apart := false }
def MachineOuterSaid : Prop := machineOuterRow.holds Tryz.pinned (OpenSpec.ofChange machineOuterSpec)

/-- ITS FALSE NEIGHBOUR: 'it returns false'. Refute it at one input. -/
def machineOuterWrong : ChangeSpec := { name := "machineOuter", fn := fun _ => fun
  | [d1, d2] => { results := [.lit (.bool false)], args := [d1, d2] }
  | _ => none }
def MachineOuterWrongFalsely : Prop := machineOuterRow.holds Tryz.pinned (OpenSpec.ofChange machineOuterWrong)

/-- 'mizzenlaw.MachineSends': WHATEVER THE INPUT: true; the input reads as it did. -/
def machineSendsSpec : ChangeSpec := { name := "machineSends", fn := fun _ => fun
  | [d1, d2] => { results := [.lit (.bool true)], args := [d1, d2] }
  | _ => none }
def machineSendsRow : OpenClaim := { program := "ytcadpoknolefpaagreat", sum := "4b4df0c12ad9097e767a3cf005f122d9691b36a4cc6d5ac2b49ab312ef68f5a6", func := "mizzen/mizzenlaw.MachineSends", spec := "machineSends", inPlace := ["internal/abi.NoEscape", "internal/bytealg.MakeNoZero"], unfollowed := true, recurses := true, apart := false }
def MachineSendsSaid : Prop := machineSendsRow.holds Tryz.pinned (OpenSpec.ofChange machineSendsSpec)

/-- ITS FALSE NEIGHBOUR: 'it returns false'. Refute it at one input. -/
def machineSendsWrong : ChangeSpec := { name := "machineSends", fn := fun _ => fun
  | [d1, d2] => { results := [.lit (.bool false)], args := [d1, d2] }
  | _ => none }
def MachineSendsWrongFalsely : Prop := machineSendsRow.holds Tryz.pinned (OpenSpec.ofChange machineSendsWrong)

/-- 'mizzenlaw.MeterTells': WHATEVER THE INPUT: true; the input reads as it did. -/
def meterTellsSpec : ChangeSpec := { name := "meterTells", fn := fun _ => fun
  | [d1, d2, d3, d4] => { results := [.lit (.bool true)], args := [d1, d2, d3, d4] }
  | _ => none }
def meterTellsRow : OpenClaim := { program := "ytcadpoknolefpaagreat", sum := "4b4df0c12ad9097e767a3cf005f122d9691b36a4cc6d5ac2b49ab312ef68f5a6", func := "mizzen/mizzenlaw.MeterTells", spec := "meterTells", inPlace := ["internal/abi.NoEscape", "internal/bytealg.MakeNoZero"], unfollowed := true, recurses := true, apart := false }
def MeterTellsSaid : Prop := meterTellsRow.holds Tryz.pinned (OpenSpec.ofChange meterTellsSpec)

/-- ITS FALSE NEIGHBOUR: 'it returns false'. Refute it at one input. -/
def meterTellsWrong : ChangeSpec := { name := "meterTells", fn := fun _ => fun
  | [d1, d2, d3, d4] => { results := [.lit (.bool false)], args := [d1, d2, d3, d4] }
  | _ => none }
def MeterTellsWrongFalsely : Prop := meterTellsRow.holds Tryz.pinned (OpenSpec.ofChange meterTellsWrong)

/-- 'mizzenlaw.MeterSplit': WHATEVER THE INPUT: true; the input reads as it did. -/
def meterSplitSpec : ChangeSpec := { name := "meterSplit", fn := fun _ => fun
  | [d1, d2, d3, d4] => { results := [.lit (.bool true)], args := [d1, d2, d3, d4] }
  | _ => none }
def meterSplitRow : OpenClaim := { program := "ytcadpoknolefpaagreat", sum := "4b4df0c12ad9097e767a3cf005f122d9691b36a4cc6d5ac2b49ab312ef68f5a6", func := "mizzen/mizzenlaw.MeterSplit", spec := "meterSplit", inPlace := ["internal/abi.NoEscape", "internal/bytealg.MakeNoZero"], unfollowed := true, recurses := true, apart := false }
def MeterSplitSaid : Prop := meterSplitRow.holds Tryz.pinned (OpenSpec.ofChange meterSplitSpec)

/-- ITS FALSE NEIGHBOUR: 'it returns false'. Refute it at one input. -/
def meterSplitWrong : ChangeSpec := { name := "meterSplit", fn := fun _ => fun
  | [d1, d2, d3, d4] => { results := [.lit (.bool false)], args := [d1, d2, d3, d4] }
  | _ => none }
def MeterSplitWrongFalsely : Prop := meterSplitRow.holds Tryz.pinned (OpenSpec.ofChange meterSplitWrong)

/-- 'mizzenlaw.MeterSteps': WHATEVER THE INPUT: true; the input reads as it did. -/
def meterStepsSpec : ChangeSpec := { name := "meterSteps", fn := fun _ => fun
  | [d1, d2, d3] => { results := [.lit (.bool true)], args := [d1, d2, d3] }
  | _ => none }
def meterStepsRow : OpenClaim := { program := "ytcadpoknolefpaagreat", sum := "4b4df0c12ad9097e767a3cf005f122d9691b36a4cc6d5ac2b49ab312ef68f5a6", func := "mizzen/mizzenlaw.MeterSteps", spec := "meterSteps", inPlace := ["internal/abi.NoEscape", "internal/bytealg.MakeNoZero"], unfollowed := true, recurses := true, apart := false }
def MeterStepsSaid : Prop := meterStepsRow.holds Tryz.pinned (OpenSpec.ofChange meterStepsSpec)

/-- ITS FALSE NEIGHBOUR: 'it returns false'. Refute it at one input. -/
def meterStepsWrong : ChangeSpec := { name := "meterSteps", fn := fun _ => fun
  | [d1, d2, d3] => { results := [.lit (.bool false)], args := [d1, d2, d3] }
  | _ => none }
def MeterStepsWrongFalsely : Prop := meterStepsRow.holds Tryz.pinned (OpenSpec.ofChange meterStepsWrong)

/-- 'mizzenlaw.MeterFree': WHATEVER THE INPUT: true; the input reads as it did. -/
def meterFreeSpec : ChangeSpec := { name := "meterFree", fn := fun _ => fun
  | [d1, d2, d3, d4] => { results := [.lit (.bool true)], args := [d1, d2, d3, d4] }
  | _ => none }
def meterFreeRow : OpenClaim := { program := "ytcadpoknolefpaagreat", sum := "4b4df0c12ad9097e767a3cf005f122d9691b36a4cc6d5ac2b49ab312ef68f5a6", func := "mizzen/mizzenlaw.MeterFree", spec := "meterFree", inPlace := ["internal/abi.NoEscape", "internal/bytealg.MakeNoZero"], unfollowed := true, recurses := true, apart := false }
def MeterFreeSaid : Prop := meterFreeRow.holds Tryz.pinned (OpenSpec.ofChange meterFreeSpec)

/-- ITS FALSE NEIGHBOUR: 'it returns false'. Refute it at one input. -/
def meterFreeWrong : ChangeSpec := { name := "meterFree", fn := fun _ => fun
  | [d1, d2, d3, d4] => { results := [.lit (.bool false)], args := [d1, d2, d3, d4] }
  | _ => none }
def MeterFreeWrongFalsely : Prop := meterFreeRow.holds Tryz.pinned (OpenSpec.ofChange meterFreeWrong)

/-- 'mizzenlaw.CollectTells': WHATEVER THE INPUT: true; the input reads as it did. -/
def collectTellsSpec : ChangeSpec := { name := "collectTells", fn := fun _ => fun
  | [d1, d2] => { results := [.lit (.bool true)], args := [d1, d2] }
  | _ => none }
def collectTellsRow : OpenClaim := { program := "ytcadpoknolefpaagreat", sum := "4b4df0c12ad9097e767a3cf005f122d9691b36a4cc6d5ac2b49ab312ef68f5a6", func := "mizzen/mizzenlaw.CollectTells", spec := "collectTells", inPlace := ["internal/abi.NoEscape", "internal/bytealg.MakeNoZero"], unfollowed := true, recurses := true, apart := false }
def CollectTellsSaid : Prop := collectTellsRow.holds Tryz.pinned (OpenSpec.ofChange collectTellsSpec)

/-- ITS FALSE NEIGHBOUR: 'it returns false'. Refute it at one input. -/
def collectTellsWrong : ChangeSpec := { name := "collectTells", fn := fun _ => fun
  | [d1, d2] => { results := [.lit (.bool false)], args := [d1, d2] }
  | _ => none }
def CollectTellsWrongFalsely : Prop := collectTellsRow.holds Tryz.pinned (OpenSpec.ofChange collectTellsWrong)

/-- 'mizzenlaw.CollectSame': WHATEVER THE INPUT: true; the input reads as it did. -/
def collectSameSpec : ChangeSpec := { name := "collectSame", fn := fun _ => fun
  | [d1, d2] => { results := [.lit (.bool true)], args := [d1, d2] }
  | _ => none }
def collectSameRow : OpenClaim := { program := "ytcadpoknolefpaagreat", sum := "4b4df0c12ad9097e767a3cf005f122d9691b36a4cc6d5ac2b49ab312ef68f5a6", func := "mizzen/mizzenlaw.CollectSame", spec := "collectSame", inPlace := ["internal/abi.NoEscape", "internal/bytealg.MakeNoZero"], unfollowed := true, recurses := true, apart := false }
def CollectSameSaid : Prop := collectSameRow.holds Tryz.pinned (OpenSpec.ofChange collectSameSpec)

/-- ITS FALSE NEIGHBOUR: 'it returns false'. Refute it at one input. -/
def collectSameWrong : ChangeSpec := { name := "collectSame", fn := fun _ => fun
  | [d1, d2] => { results := [.lit (.bool false)], args := [d1, d2] }
  | _ => none }
def CollectSameWrongFalsely : Prop := collectSameRow.holds Tryz.pinned (OpenSpec.ofChange collectSameWrong)

/-- 'mizzenlaw.CollectRuns': WHATEVER THE INPUT: true; the input reads as it did. -/
def collectRunsSpec : ChangeSpec := { name := "collectRuns", fn := fun _ => fun
  | [d1, d2, d3] => { results := [.lit (.bool true)], args := [d1, d2, d3] }
  | _ => none }
def collectRunsRow : OpenClaim := { program := "ytcadpoknolefpaagreat", sum := "4b4df0c12ad9097e767a3cf005f122d9691b36a4cc6d5ac2b49ab312ef68f5a6", func := "mizzen/mizzenlaw.CollectRuns", spec := "collectRuns", inPlace := ["internal/abi.NoEscape", "internal/bytealg.MakeNoZero"], unfollowed := true, recurses := true, apart := false }
def CollectRunsSaid : Prop := collectRunsRow.holds Tryz.pinned (OpenSpec.ofChange collectRunsSpec)

/-- ITS FALSE NEIGHBOUR: 'it returns false'. Refute it at one input. -/
def collectRunsWrong : ChangeSpec := { name := "collectRuns", fn := fun _ => fun
  | [d1, d2, d3] => { results := [.lit (.bool false)], args := [d1, d2, d3] }
  | _ => none }
def CollectRunsWrongFalsely : Prop := collectRunsRow.holds Tryz.pinned (OpenSpec.ofChange collectRunsWrong)

/- THE SECOND FORM. 'bulk': how many values and letters a reading holds, each counted each time it is reached (what is shared counts as often as it is met; a slice's spare places count too). A statement '..UptoSaid' is the law's where the arguments, and the package variables that the reading takes, are together of bulk at most 1048576: NARROWER than '..Said'. Prove '..Said' where nothing that the law and all that it calls make is longer than what came in: it says more and counts as full. Else prove '..UptoSaid'. A law counts once. -/
mutual
def uptoBulk {H : Type} : DataW H → Nat
  | .lit (.string bytes) => bytes.length + 1
  | .lit _ => 1
  | .nil => 1
  | .ptr d => uptoBulk d + 1
  | .slice elems spare => uptoBulkAll elems + uptoBulkAll spare + 1
  | .agg parts => uptoBulkAll parts + 1
  | .iface _ d => uptoBulk d + 1
  | .map entries => uptoBulkEntries entries + 1
  | .held _ => 1
def uptoBulkAll {H : Type} : List (DataW H) → Nat
  | [] => 0
  | d :: r => uptoBulk d + uptoBulkAll r
def uptoBulkEntries {H : Type} : List (Lit × DataW H) → Nat
  | [] => 0
  | x :: r => uptoBulkEntry x + uptoBulkEntries r
def uptoBulkEntry {H : Type} : Lit × DataW H → Nat
  | (.string bytes, d) => bytes.length + uptoBulk d + 1
  | (_, d) => uptoBulk d + 1
 end
def uptoSmall : (H : Type) → List (DataW H) → Bool := fun _ ds => decide (uptoBulkAll ds ≤ 1048576)
def OpenSpec.upto (s : _root_.Go.ChangeSpec) : _root_.Go.OpenSpec := { _root_.Go.OpenSpec.ofChange s with cond := some uptoSmall }

/-- 'mizzenlaw.MachineTells', WHERE WHAT IT READS IS OF BULK AT MOST 1048576: true; the input reads as it did. -/
def machineTellsUptoRow : OpenClaim := { program := "ytcadpoknolefpaagreat", sum := "4b4df0c12ad9097e767a3cf005f122d9691b36a4cc6d5ac2b49ab312ef68f5a6", func := "mizzen/mizzenlaw.MachineTells", spec := "machineTells", inPlace := ["internal/abi.NoEscape", "internal/bytealg.MakeNoZero"], unfollowed := true, recurses := true, apart := false, narrowed := true }
def MachineTellsUptoSaid : Prop := machineTellsUptoRow.holds Tryz.pinned (OpenSpec.upto machineTellsSpec)

/-- 'mizzenlaw.MachineRight', WHERE WHAT IT READS IS OF BULK AT MOST 1048576: true; the input reads as it did. -/
def machineRightUptoRow : OpenClaim := { program := "ytcadpoknolefpaagreat", sum := "4b4df0c12ad9097e767a3cf005f122d9691b36a4cc6d5ac2b49ab312ef68f5a6", func := "mizzen/mizzenlaw.MachineRight", spec := "machineRight", inPlace := ["internal/abi.NoEscape", "internal/bytealg.MakeNoZero"], unfollowed := true, recurses := true, apart := false, narrowed := true }
def MachineRightUptoSaid : Prop := machineRightUptoRow.holds Tryz.pinned (OpenSpec.upto machineRightSpec)

/-- 'mizzenlaw.MachineOuter', WHERE WHAT IT READS IS OF BULK AT MOST 1048576: true; the input reads as it did. -/
def machineOuterUptoRow : OpenClaim := { program := "ytcadpoknolefpaagreat", sum := "4b4df0c12ad9097e767a3cf005f122d9691b36a4cc6d5ac2b49ab312ef68f5a6", func := "mizzen/mizzenlaw.MachineOuter", spec := "machineOuter", inPlace := ["internal/abi.NoEscape", "internal/bytealg.MakeNoZero"], unfollowed := true, recurses := true, apart := false, narrowed := true }
def MachineOuterUptoSaid : Prop := machineOuterUptoRow.holds Tryz.pinned (OpenSpec.upto machineOuterSpec)

/-- 'mizzenlaw.MachineSends', WHERE WHAT IT READS IS OF BULK AT MOST 1048576: true; the input reads as it did. -/
def machineSendsUptoRow : OpenClaim := { program := "ytcadpoknolefpaagreat", sum := "4b4df0c12ad9097e767a3cf005f122d9691b36a4cc6d5ac2b49ab312ef68f5a6", func := "mizzen/mizzenlaw.MachineSends", spec := "machineSends", inPlace := ["internal/abi.NoEscape", "internal/bytealg.MakeNoZero"], unfollowed := true, recurses := true, apart := false, narrowed := true }
def MachineSendsUptoSaid : Prop := machineSendsUptoRow.holds Tryz.pinned (OpenSpec.upto machineSendsSpec)

/-- 'mizzenlaw.MeterTells', WHERE WHAT IT READS IS OF BULK AT MOST 1048576: true; the input reads as it did. -/
def meterTellsUptoRow : OpenClaim := { program := "ytcadpoknolefpaagreat", sum := "4b4df0c12ad9097e767a3cf005f122d9691b36a4cc6d5ac2b49ab312ef68f5a6", func := "mizzen/mizzenlaw.MeterTells", spec := "meterTells", inPlace := ["internal/abi.NoEscape", "internal/bytealg.MakeNoZero"], unfollowed := true, recurses := true, apart := false, narrowed := true }
def MeterTellsUptoSaid : Prop := meterTellsUptoRow.holds Tryz.pinned (OpenSpec.upto meterTellsSpec)

/-- 'mizzenlaw.MeterSplit', WHERE WHAT IT READS IS OF BULK AT MOST 1048576: true; the input reads as it did. -/
def meterSplitUptoRow : OpenClaim := { program := "ytcadpoknolefpaagreat", sum := "4b4df0c12ad9097e767a3cf005f122d9691b36a4cc6d5ac2b49ab312ef68f5a6", func := "mizzen/mizzenlaw.MeterSplit", spec := "meterSplit", inPlace := ["internal/abi.NoEscape", "internal/bytealg.MakeNoZero"], unfollowed := true, recurses := true, apart := false, narrowed := true }
def MeterSplitUptoSaid : Prop := meterSplitUptoRow.holds Tryz.pinned (OpenSpec.upto meterSplitSpec)

/-- 'mizzenlaw.MeterSteps', WHERE WHAT IT READS IS OF BULK AT MOST 1048576: true; the input reads as it did. -/
def meterStepsUptoRow : OpenClaim := { program := "ytcadpoknolefpaagreat", sum := "4b4df0c12ad9097e767a3cf005f122d9691b36a4cc6d5ac2b49ab312ef68f5a6", func := "mizzen/mizzenlaw.MeterSteps", spec := "meterSteps", inPlace := ["internal/abi.NoEscape", "internal/bytealg.MakeNoZero"], unfollowed := true, recurses := true, apart := false, narrowed := true }
def MeterStepsUptoSaid : Prop := meterStepsUptoRow.holds Tryz.pinned (OpenSpec.upto meterStepsSpec)

/-- 'mizzenlaw.MeterFree', WHERE WHAT IT READS IS OF BULK AT MOST 1048576: true; the input reads as it did. -/
def meterFreeUptoRow : OpenClaim := { program := "ytcadpoknolefpaagreat", sum := "4b4df0c12ad9097e767a3cf005f122d9691b36a4cc6d5ac2b49ab312ef68f5a6", func := "mizzen/mizzenlaw.MeterFree", spec := "meterFree", inPlace := ["internal/abi.NoEscape", "internal/bytealg.MakeNoZero"], unfollowed := true, recurses := true, apart := false, narrowed := true }
def MeterFreeUptoSaid : Prop := meterFreeUptoRow.holds Tryz.pinned (OpenSpec.upto meterFreeSpec)

/-- 'mizzenlaw.CollectTells', WHERE WHAT IT READS IS OF BULK AT MOST 1048576: true; the input reads as it did. -/
def collectTellsUptoRow : OpenClaim := { program := "ytcadpoknolefpaagreat", sum := "4b4df0c12ad9097e767a3cf005f122d9691b36a4cc6d5ac2b49ab312ef68f5a6", func := "mizzen/mizzenlaw.CollectTells", spec := "collectTells", inPlace := ["internal/abi.NoEscape", "internal/bytealg.MakeNoZero"], unfollowed := true, recurses := true, apart := false, narrowed := true }
def CollectTellsUptoSaid : Prop := collectTellsUptoRow.holds Tryz.pinned (OpenSpec.upto collectTellsSpec)

/-- 'mizzenlaw.CollectSame', WHERE WHAT IT READS IS OF BULK AT MOST 1048576: true; the input reads as it did. -/
def collectSameUptoRow : OpenClaim := { program := "ytcadpoknolefpaagreat", sum := "4b4df0c12ad9097e767a3cf005f122d9691b36a4cc6d5ac2b49ab312ef68f5a6", func := "mizzen/mizzenlaw.CollectSame", spec := "collectSame", inPlace := ["internal/abi.NoEscape", "internal/bytealg.MakeNoZero"], unfollowed := true, recurses := true, apart := false, narrowed := true }
def CollectSameUptoSaid : Prop := collectSameUptoRow.holds Tryz.pinned (OpenSpec.upto collectSameSpec)

/-- 'mizzenlaw.CollectRuns', WHERE WHAT IT READS IS OF BULK AT MOST 1048576: true; the input reads as it did. -/
def collectRunsUptoRow : OpenClaim := { program := "ytcadpoknolefpaagreat", sum := "4b4df0c12ad9097e767a3cf005f122d9691b36a4cc6d5ac2b49ab312ef68f5a6", func := "mizzen/mizzenlaw.CollectRuns", spec := "collectRuns", inPlace := ["internal/abi.NoEscape", "internal/bytealg.MakeNoZero"], unfollowed := true, recurses := true, apart := false, narrowed := true }
def CollectRunsUptoSaid : Prop := collectRunsUptoRow.holds Tryz.pinned (OpenSpec.upto collectRunsSpec)

end Rows
end Go.Proofs.YtcadpoknolefpaaGreat
