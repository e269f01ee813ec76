/-
  No cell of these rows narrows 'for every input' (looked for: loops, veiled, ifaces, maps, wideKeys, modest, calm, conditions, laid).
  DERIVED. THE GIVEN ROWS OF THIS SEAT. 3 by the template 'for every input the law returns true; each argument reads behind the call as it read before'; 0 by the template 'total and deterministic' (their statements: YtddnjlnhnnpgiaaTotals.lean).
  GIVEN WITH THE SEED: the statements are not yours to turn. If you find one false, say at which input.
  Laid BY PROGRAM, IN A SANDBOX (cutbox-rows.mjs): the forced cells as the released guide's own fill.sh prints them over the translation a9c0b650f83f255e… (all of the seat's roots in one cut). By AI agents, Wed Nov 11 2026. No macro, syntax, notation, axiom, sorry.
-/
import Derived.Test.YtddnjlnhnnpgiaaChecked
import GoSem.Claim
import GoSem.ClaimJoined
import GoSem.ClaimMapViews
import Derived.JoinedTies
import Derived.KernelRfl
namespace Go.Proofs.Ytddnjlnhnnpgiaa
/- THE CELL 'sum', in the pinned program and in every row, IS THE sha256 OF THE DUMP (.gsa) THAT YtddnjlnhnnpgiaaProg.lean LOADS. Nothing in Lean hashes anything: it is a label: what it is worth is what the hold of that sum in a sandbox is worth. -/
noncomputable def Try.pinned : Pinned := { name := "ytddnjlnhnnpgiaa", sum := "a9c0b650f83f255ea8ac86088fb73d1f62e67d2333d436013384b7c78ea7991b", checked := Try.checked }
namespace Rows
def none {H : Type} : Left H := { results := [], args := [] }

/-- 'keelsonlaw08.TwinPlays': WHATEVER THE INPUT: true; the input reads as it did. -/
def twinPlaysSpec : ChangeSpec := { name := "twinPlays", fn := fun _ => fun
  | [d1, d2, d3] => { results := [.lit (.bool true)], args := [d1, d2, d3] }
  | _ => none }
def twinPlaysRow : OpenClaim := { program := "ytddnjlnhnnpgiaa", sum := "a9c0b650f83f255ea8ac86088fb73d1f62e67d2333d436013384b7c78ea7991b", func := "keelson/keelsonlaw08.TwinPlays", spec := "twinPlays", unfollowed := true, recurses := true, apart := false }
def TwinPlaysSaid : Prop := twinPlaysRow.holds Try.pinned (OpenSpec.ofChange twinPlaysSpec)

/-- ITS FALSE NEIGHBOUR: 'it returns false'. Refute it at one input. -/
def twinPlaysWrong : ChangeSpec := { name := "twinPlays", fn := fun _ => fun
  | [d1, d2, d3] => { results := [.lit (.bool false)], args := [d1, d2, d3] }
  | _ => none }
def TwinPlaysWrongFalsely : Prop := twinPlaysRow.holds Try.pinned (OpenSpec.ofChange twinPlaysWrong)

/-- 'keelsonlaw08.TwinCrash': WHATEVER THE INPUT: true; the input reads as it did. -/
def twinCrashSpec : ChangeSpec := { name := "twinCrash", fn := fun _ => fun
  | [d] => { results := [.lit (.bool true)], args := [d] }
  | _ => none }
def twinCrashRow : OpenClaim := { program := "ytddnjlnhnnpgiaa", sum := "a9c0b650f83f255ea8ac86088fb73d1f62e67d2333d436013384b7c78ea7991b", func := "keelson/keelsonlaw08.TwinCrash", spec := "twinCrash", unfollowed := true, recurses := true, apart := false }
def TwinCrashSaid : Prop := twinCrashRow.holds Try.pinned (OpenSpec.ofChange twinCrashSpec)

/-- ITS FALSE NEIGHBOUR: 'it returns false'. Refute it at one input. -/
def twinCrashWrong : ChangeSpec := { name := "twinCrash", fn := fun _ => fun
  | [d] => { results := [.lit (.bool false)], args := [d] }
  | _ => none }
def TwinCrashWrongFalsely : Prop := twinCrashRow.holds Try.pinned (OpenSpec.ofChange twinCrashWrong)

/-- 'keelsonlaw08.TwinNobody': WHATEVER THE INPUT: true; the input reads as it did. -/
def twinNobodySpec : ChangeSpec := { name := "twinNobody", fn := fun _ => fun
  | [d1, d2, d3] => { results := [.lit (.bool true)], args := [d1, d2, d3] }
  | _ => none }
def twinNobodyRow : OpenClaim := { program := "ytddnjlnhnnpgiaa", sum := "a9c0b650f83f255ea8ac86088fb73d1f62e67d2333d436013384b7c78ea7991b", func := "keelson/keelsonlaw08.TwinNobody", spec := "twinNobody", unfollowed := true, recurses := true, apart := false }
def TwinNobodySaid : Prop := twinNobodyRow.holds Try.pinned (OpenSpec.ofChange twinNobodySpec)

/-- ITS FALSE NEIGHBOUR: 'it returns false'. Refute it at one input. -/
def twinNobodyWrong : ChangeSpec := { name := "twinNobody", fn := fun _ => fun
  | [d1, d2, d3] => { results := [.lit (.bool false)], args := [d1, d2, d3] }
  | _ => none }
def TwinNobodyWrongFalsely : Prop := twinNobodyRow.holds Try.pinned (OpenSpec.ofChange twinNobodyWrong)

/- THE SECOND FORM. 'bulk': how many values and letters a reading holds, each counted each time it is reached (what is shared counts as often as it is met; a slice's spare places count too). A statement '..UptoSaid' is the law's where the arguments, and the package variables that the reading takes, are together of bulk at most 1048576: NARROWER than '..Said'. Prove '..Said' where nothing that the law and all that it calls make is longer than what came in: it says more and counts as full. Else prove '..UptoSaid'. A law counts once. -/
mutual
def uptoBulk {H : Type} : DataW H → Nat
  | .lit (.string bytes) => bytes.length + 1
  | .lit _ => 1
  | .nil => 1
  | .ptr d => uptoBulk d + 1
  | .slice elems spare => uptoBulkAll elems + uptoBulkAll spare + 1
  | .agg parts => uptoBulkAll parts + 1
  | .iface _ d => uptoBulk d + 1
  | .map entries => uptoBulkEntries entries + 1
  | .held _ => 1
def uptoBulkAll {H : Type} : List (DataW H) → Nat
  | [] => 0
  | d :: r => uptoBulk d + uptoBulkAll r
def uptoBulkEntries {H : Type} : List (Lit × DataW H) → Nat
  | [] => 0
  | x :: r => uptoBulkEntry x + uptoBulkEntries r
def uptoBulkEntry {H : Type} : Lit × DataW H → Nat
  | (.string bytes, d) => bytes.length + uptoBulk d + 1
  | (_, d) => uptoBulk d + 1
 end
def uptoSmall : (H : Type) → List (DataW H) → Bool := fun _ ds => decide (uptoBulkAll ds ≤ 1048576)
def OpenSpec.upto (s : _root_.Go.ChangeSpec) : _root_.Go.OpenSpec := { _root_.Go.OpenSpec.ofChange s with cond := some uptoSmall }

/-- 'keelsonlaw08.TwinPlays', WHERE WHAT IT READS IS OF BULK AT MOST 1048576: true; the input reads as it did. -/
def twinPlaysUptoRow : OpenClaim := { program := "ytddnjlnhnnpgiaa", sum := "a9c0b650f83f255ea8ac86088fb73d1f62e67d2333d436013384b7c78ea7991b", func := "keelson/keelsonlaw08.TwinPlays", spec := "twinPlays", unfollowed := true, recurses := true, apart := false, narrowed := true }
def TwinPlaysUptoSaid : Prop := twinPlaysUptoRow.holds Try.pinned (OpenSpec.upto twinPlaysSpec)

/-- 'keelsonlaw08.TwinCrash', WHERE WHAT IT READS IS OF BULK AT MOST 1048576: true; the input reads as it did. -/
def twinCrashUptoRow : OpenClaim := { program := "ytddnjlnhnnpgiaa", sum := "a9c0b650f83f255ea8ac86088fb73d1f62e67d2333d436013384b7c78ea7991b", func := "keelson/keelsonlaw08.TwinCrash", spec := "twinCrash", unfollowed := true, recurses := true, apart := false, narrowed := true }
def TwinCrashUptoSaid : Prop := twinCrashUptoRow.holds Try.pinned (OpenSpec.upto twinCrashSpec)

/-- 'keelsonlaw08.TwinNobody', WHERE WHAT IT READS IS OF BULK AT MOST 1048576: true; the input reads as it did. -/
def twinNobodyUptoRow : OpenClaim := { program := "ytddnjlnhnnpgiaa", sum := "a9c0b650f83f255ea8ac86088fb73d1f62e67d2333d436013384b7c78ea7991b", func := "keelson/keelsonlaw08.TwinNobody", spec := "twinNobody", unfollowed := true, recurses := true, apart := false, narrowed := true }
def TwinNobodyUptoSaid : Prop := twinNobodyUptoRow.holds Try.pinned (OpenSpec.upto twinNobodySpec)

end Rows
end Go.Proofs.Ytddnjlnhnnpgiaa
