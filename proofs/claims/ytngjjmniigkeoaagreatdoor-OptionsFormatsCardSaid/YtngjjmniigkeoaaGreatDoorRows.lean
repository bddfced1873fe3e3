/-
  NARROWER THAN 'FOR EVERY INPUT', by the rows' own cells (each row's printed sentence says how): OptionsChecks: laid · OptionsFormats: laid · OptionsParses: laid · OptionsHolds: laid · OptionsFollows: laid.
  DERIVED. THE GIVEN ROWS OF THIS SEAT. 5 by the template 'for every input the law returns true; each argument reads behind the call as it read before'; 0 by the template 'total and deterministic' (their statements: YtngjjmniigkeoaaGreatDoorTotals.lean).
  GIVEN WITH THE SEED: the statements are not yours to turn. If you find one false, say at which input.
  Laid BY PROGRAM, IN A SANDBOX (cutbox-rows.mjs): the forced cells as the released guide's own fill.sh prints them over the translation cc20057a137bec70… (all of the seat's roots in one cut). By AI agents, Wed Nov 11 2026. No macro, syntax, notation, axiom, sorry.
-/
import Derived.Test.YtngjjmniigkeoaaGreatDoorChecked
import GoSem.Claim
import GoSem.ClaimJoined
import GoSem.ClaimMapViews
import Derived.JoinedTies
import Derived.KernelRfl
namespace Go.Proofs.YtngjjmniigkeoaaGreatDoor
/- THE CELL 'sum', in the pinned program and in every row, IS THE sha256 OF THE DUMP (.gsa) THAT YtngjjmniigkeoaaGreatDoorProg.lean LOADS. Nothing in Lean hashes anything: it is a label: what it is worth is what the hold of that sum in a sandbox is worth. -/
noncomputable def Tryz.pinned : Pinned := { name := "ytngjjmniigkeoaagreatdoor", sum := "cc20057a137bec701479b25f79e25172de910ffbda649d8efd18ed03619ede38", checked := Tryz.checked }
namespace Rows
def none {H : Type} : Left H := { results := [], args := [] }

/- WHAT THE LISTED PACKAGE-LEVEL VARIABLES READ AS WHEN THE CALL BEGINS. Each datum BY PROGRAM (the guide's laid-datum.mjs) off the statement by which the dump's own 'gosem.cut.vars' lays the variable. In a bare row this is a premise. The card (YtngjjmniigkeoaaGreatDoorCards.lean) ties it to the program's text. -/
def laid_math_bits_deBruijn32tab {H : Type} : DataW H := .agg [.lit (.int .u8 0), .lit (.int .u8 1), .lit (.int .u8 28), .lit (.int .u8 2), .lit (.int .u8 29), .lit (.int .u8 14), .lit (.int .u8 24), .lit (.int .u8 3), .lit (.int .u8 30), .lit (.int .u8 22), .lit (.int .u8 20), .lit (.int .u8 15), .lit (.int .u8 25), .lit (.int .u8 17), .lit (.int .u8 4), .lit (.int .u8 8), .lit (.int .u8 31), .lit (.int .u8 27), .lit (.int .u8 13), .lit (.int .u8 23), .lit (.int .u8 21), .lit (.int .u8 19), .lit (.int .u8 16), .lit (.int .u8 7), .lit (.int .u8 26), .lit (.int .u8 12), .lit (.int .u8 18), .lit (.int .u8 6), .lit (.int .u8 11), .lit (.int .u8 5), .lit (.int .u8 10), .lit (.int .u8 9)]
def laid_math_bits_deBruijn64tab {H : Type} : DataW H := .agg [.lit (.int .u8 0), .lit (.int .u8 1), .lit (.int .u8 56), .lit (.int .u8 2), .lit (.int .u8 57), .lit (.int .u8 49), .lit (.int .u8 28), .lit (.int .u8 3), .lit (.int .u8 61), .lit (.int .u8 58), .lit (.int .u8 42), .lit (.int .u8 50), .lit (.int .u8 38), .lit (.int .u8 29), .lit (.int .u8 17), .lit (.int .u8 4), .lit (.int .u8 62), .lit (.int .u8 47), .lit (.int .u8 59), .lit (.int .u8 36), .lit (.int .u8 45), .lit (.int .u8 43), .lit (.int .u8 51), .lit (.int .u8 22), .lit (.int .u8 53), .lit (.int .u8 39), .lit (.int .u8 33), .lit (.int .u8 30), .lit (.int .u8 24), .lit (.int .u8 18), .lit (.int .u8 12), .lit (.int .u8 5), .lit (.int .u8 63), .lit (.int .u8 55), .lit (.int .u8 48), .lit (.int .u8 27), .lit (.int .u8 60), .lit (.int .u8 41), .lit (.int .u8 37), .lit (.int .u8 16), .lit (.int .u8 46), .lit (.int .u8 35), .lit (.int .u8 44), .lit (.int .u8 21), .lit (.int .u8 52), .lit (.int .u8 32), .lit (.int .u8 23), .lit (.int .u8 11), .lit (.int .u8 54), .lit (.int .u8 26), .lit (.int .u8 40), .lit (.int .u8 15), .lit (.int .u8 34), .lit (.int .u8 20), .lit (.int .u8 31), .lit (.int .u8 10), .lit (.int .u8 25), .lit (.int .u8 14), .lit (.int .u8 19), .lit (.int .u8 9), .lit (.int .u8 13), .lit (.int .u8 8), .lit (.int .u8 7), .lit (.int .u8 6)]
def laid_internal_strconv_uint64pow10 {H : Type} : DataW H := .agg [.lit (.int .u64 1), .lit (.int .u64 10), .lit (.int .u64 100), .lit (.int .u64 1000), .lit (.int .u64 10000), .lit (.int .u64 100000), .lit (.int .u64 1000000), .lit (.int .u64 10000000), .lit (.int .u64 100000000), .lit (.int .u64 1000000000), .lit (.int .u64 10000000000), .lit (.int .u64 100000000000), .lit (.int .u64 1000000000000), .lit (.int .u64 10000000000000), .lit (.int .u64 100000000000000), .lit (.int .u64 1000000000000000), .lit (.int .u64 10000000000000000), .lit (.int .u64 100000000000000000), .lit (.int .u64 1000000000000000000), .lit (.int .u64 10000000000000000000)]

/-- 'ignitionlaw01.OptionsChecks': WHATEVER THE INPUT: true; the input reads as it did. -/
def optionsChecksSpec : ChangeSpec := { name := "optionsChecks", fn := fun _ => fun
  | [d1, d2] => { results := [.lit (.bool true)], args := [d1, d2] }
  | _ => none }
def optionsChecksRow : OpenClaim := { program := "ytngjjmniigkeoaagreatdoor", sum := "cc20057a137bec701479b25f79e25172de910ffbda649d8efd18ed03619ede38", func := "ignition/ignitionlaw01.OptionsChecks", spec := "optionsChecks", unfollowed := true, recurses := true, named := ["math/bits.deBruijn64tab", "internal/strconv.uint64pow10", "math/bits.deBruijn32tab"], plainKeys := false, apart := false, laid := [("math/bits.deBruijn32tab", laid_math_bits_deBruijn32tab), ("math/bits.deBruijn64tab", laid_math_bits_deBruijn64tab), ("internal/strconv.uint64pow10", laid_internal_strconv_uint64pow10)] }
def OptionsChecksSaid : Prop := optionsChecksRow.holds Tryz.pinned (OpenSpec.ofChange optionsChecksSpec)

/-- ITS FALSE NEIGHBOUR: 'it returns false'. Refute it at one input. -/
def optionsChecksWrong : ChangeSpec := { name := "optionsChecks", fn := fun _ => fun
  | [d1, d2] => { results := [.lit (.bool false)], args := [d1, d2] }
  | _ => none }
def OptionsChecksWrongFalsely : Prop := optionsChecksRow.holds Tryz.pinned (OpenSpec.ofChange optionsChecksWrong)

/-- 'ignitionlaw01.OptionsFormats': WHATEVER THE INPUT: true; the input reads as it did. -/
def optionsFormatsSpec : ChangeSpec := { name := "optionsFormats", fn := fun _ => fun
  | [d1, d2] => { results := [.lit (.bool true)], args := [d1, d2] }
  | _ => none }
def optionsFormatsRow : OpenClaim := { program := "ytngjjmniigkeoaagreatdoor", sum := "cc20057a137bec701479b25f79e25172de910ffbda649d8efd18ed03619ede38", func := "ignition/ignitionlaw01.OptionsFormats", spec := "optionsFormats", unfollowed := true, recurses := true, named := ["math/bits.deBruijn64tab", "internal/strconv.uint64pow10", "math/bits.deBruijn32tab"], plainKeys := false, apart := false, laid := [("math/bits.deBruijn32tab", laid_math_bits_deBruijn32tab), ("math/bits.deBruijn64tab", laid_math_bits_deBruijn64tab), ("internal/strconv.uint64pow10", laid_internal_strconv_uint64pow10)] }
def OptionsFormatsSaid : Prop := optionsFormatsRow.holds Tryz.pinned (OpenSpec.ofChange optionsFormatsSpec)

/-- ITS FALSE NEIGHBOUR: 'it returns false'. Refute it at one input. -/
def optionsFormatsWrong : ChangeSpec := { name := "optionsFormats", fn := fun _ => fun
  | [d1, d2] => { results := [.lit (.bool false)], args := [d1, d2] }
  | _ => none }
def OptionsFormatsWrongFalsely : Prop := optionsFormatsRow.holds Tryz.pinned (OpenSpec.ofChange optionsFormatsWrong)

/-- 'ignitionlaw01.OptionsParses': WHATEVER THE INPUT: true; the input reads as it did. -/
def optionsParsesSpec : ChangeSpec := { name := "optionsParses", fn := fun _ => fun
  | [d1, d2] => { results := [.lit (.bool true)], args := [d1, d2] }
  | _ => none }
def optionsParsesRow : OpenClaim := { program := "ytngjjmniigkeoaagreatdoor", sum := "cc20057a137bec701479b25f79e25172de910ffbda649d8efd18ed03619ede38", func := "ignition/ignitionlaw01.OptionsParses", spec := "optionsParses", unfollowed := true, recurses := true, named := ["math/bits.deBruijn64tab", "internal/strconv.uint64pow10", "math/bits.deBruijn32tab"], plainKeys := false, apart := false, laid := [("math/bits.deBruijn32tab", laid_math_bits_deBruijn32tab), ("math/bits.deBruijn64tab", laid_math_bits_deBruijn64tab), ("internal/strconv.uint64pow10", laid_internal_strconv_uint64pow10)] }
def OptionsParsesSaid : Prop := optionsParsesRow.holds Tryz.pinned (OpenSpec.ofChange optionsParsesSpec)

/-- ITS FALSE NEIGHBOUR: 'it returns false'. Refute it at one input. -/
def optionsParsesWrong : ChangeSpec := { name := "optionsParses", fn := fun _ => fun
  | [d1, d2] => { results := [.lit (.bool false)], args := [d1, d2] }
  | _ => none }
def OptionsParsesWrongFalsely : Prop := optionsParsesRow.holds Tryz.pinned (OpenSpec.ofChange optionsParsesWrong)

/-- 'ignitionlaw01.OptionsHolds': WHATEVER THE INPUT: true; the input reads as it did. -/
def optionsHoldsSpec : ChangeSpec := { name := "optionsHolds", fn := fun _ => fun
  | [d1, d2, d3] => { results := [.lit (.bool true)], args := [d1, d2, d3] }
  | _ => none }
def optionsHoldsRow : OpenClaim := { program := "ytngjjmniigkeoaagreatdoor", sum := "cc20057a137bec701479b25f79e25172de910ffbda649d8efd18ed03619ede38", func := "ignition/ignitionlaw01.OptionsHolds", spec := "optionsHolds", unfollowed := true, recurses := true, named := ["math/bits.deBruijn64tab", "internal/strconv.uint64pow10", "math/bits.deBruijn32tab"], plainKeys := false, apart := false, laid := [("math/bits.deBruijn32tab", laid_math_bits_deBruijn32tab), ("math/bits.deBruijn64tab", laid_math_bits_deBruijn64tab), ("internal/strconv.uint64pow10", laid_internal_strconv_uint64pow10)] }
def OptionsHoldsSaid : Prop := optionsHoldsRow.holds Tryz.pinned (OpenSpec.ofChange optionsHoldsSpec)

/-- ITS FALSE NEIGHBOUR: 'it returns false'. Refute it at one input. -/
def optionsHoldsWrong : ChangeSpec := { name := "optionsHolds", fn := fun _ => fun
  | [d1, d2, d3] => { results := [.lit (.bool false)], args := [d1, d2, d3] }
  | _ => none }
def OptionsHoldsWrongFalsely : Prop := optionsHoldsRow.holds Tryz.pinned (OpenSpec.ofChange optionsHoldsWrong)

/-- 'ignitionlaw01.OptionsFollows': WHATEVER THE INPUT: true; the input reads as it did. -/
def optionsFollowsSpec : ChangeSpec := { name := "optionsFollows", fn := fun _ => fun
  | [d1, d2, d3] => { results := [.lit (.bool true)], args := [d1, d2, d3] }
  | _ => none }
def optionsFollowsRow : OpenClaim := { program := "ytngjjmniigkeoaagreatdoor", sum := "cc20057a137bec701479b25f79e25172de910ffbda649d8efd18ed03619ede38", func := "ignition/ignitionlaw01.OptionsFollows", spec := "optionsFollows", unfollowed := true, recurses := true, named := ["math/bits.deBruijn64tab", "internal/strconv.uint64pow10", "math/bits.deBruijn32tab"], plainKeys := false, apart := false, laid := [("math/bits.deBruijn32tab", laid_math_bits_deBruijn32tab), ("math/bits.deBruijn64tab", laid_math_bits_deBruijn64tab), ("internal/strconv.uint64pow10", laid_internal_strconv_uint64pow10)] }
def OptionsFollowsSaid : Prop := optionsFollowsRow.holds Tryz.pinned (OpenSpec.ofChange optionsFollowsSpec)

/-- ITS FALSE NEIGHBOUR: 'it returns false'. Refute it at one input. -/
def optionsFollowsWrong : ChangeSpec := { name := "optionsFollows", fn := fun _ => fun
  | [d1, d2, d3] => { results := [.lit (.bool false)], args := [d1, d2, d3] }
  | _ => none }
def OptionsFollowsWrongFalsely : Prop := optionsFollowsRow.holds Tryz.pinned (OpenSpec.ofChange optionsFollowsWrong)

/- THE SECOND FORM. 'bulk': how many values and letters a reading holds, each counted each time it is reached (what is shared counts as often as it is met; a slice's spare places count too). A statement '..UptoSaid' is the law's where the arguments, and the package variables that the reading takes, are together of bulk at most 1048576: NARROWER than '..Said'. Prove '..Said' where nothing that the law and all that it calls make is longer than what came in: it says more and counts as full. Else prove '..UptoSaid'. A law counts once. -/
mutual
def uptoBulk {H : Type} : DataW H → Nat
  | .lit (.string bytes) => bytes.length + 1
  | .lit _ => 1
  | .nil => 1
  | .ptr d => uptoBulk d + 1
  | .slice elems spare => uptoBulkAll elems + uptoBulkAll spare + 1
  | .agg parts => uptoBulkAll parts + 1
  | .iface _ d => uptoBulk d + 1
  | .map entries => uptoBulkEntries entries + 1
  | .held _ => 1
def uptoBulkAll {H : Type} : List (DataW H) → Nat
  | [] => 0
  | d :: r => uptoBulk d + uptoBulkAll r
def uptoBulkEntries {H : Type} : List (Lit × DataW H) → Nat
  | [] => 0
  | x :: r => uptoBulkEntry x + uptoBulkEntries r
def uptoBulkEntry {H : Type} : Lit × DataW H → Nat
  | (.string bytes, d) => bytes.length + uptoBulk d + 1
  | (_, d) => uptoBulk d + 1
 end
def uptoSmall : (H : Type) → List (DataW H) → Bool := fun _ ds => decide (uptoBulkAll ds ≤ 1048576)
def OpenSpec.upto (s : _root_.Go.ChangeSpec) : _root_.Go.OpenSpec := { _root_.Go.OpenSpec.ofChange s with cond := some uptoSmall }

/-- 'ignitionlaw01.OptionsChecks', WHERE WHAT IT READS IS OF BULK AT MOST 1048576: true; the input reads as it did. -/
def optionsChecksUptoRow : OpenClaim := { program := "ytngjjmniigkeoaagreatdoor", sum := "cc20057a137bec701479b25f79e25172de910ffbda649d8efd18ed03619ede38", func := "ignition/ignitionlaw01.OptionsChecks", spec := "optionsChecks", unfollowed := true, recurses := true, named := ["math/bits.deBruijn64tab", "internal/strconv.uint64pow10", "math/bits.deBruijn32tab"], plainKeys := false, apart := false, laid := [("math/bits.deBruijn32tab", laid_math_bits_deBruijn32tab), ("math/bits.deBruijn64tab", laid_math_bits_deBruijn64tab), ("internal/strconv.uint64pow10", laid_internal_strconv_uint64pow10)], narrowed := true }
def OptionsChecksUptoSaid : Prop := optionsChecksUptoRow.holds Tryz.pinned (OpenSpec.upto optionsChecksSpec)

/-- 'ignitionlaw01.OptionsFormats', WHERE WHAT IT READS IS OF BULK AT MOST 1048576: true; the input reads as it did. -/
def optionsFormatsUptoRow : OpenClaim := { program := "ytngjjmniigkeoaagreatdoor", sum := "cc20057a137bec701479b25f79e25172de910ffbda649d8efd18ed03619ede38", func := "ignition/ignitionlaw01.OptionsFormats", spec := "optionsFormats", unfollowed := true, recurses := true, named := ["math/bits.deBruijn64tab", "internal/strconv.uint64pow10", "math/bits.deBruijn32tab"], plainKeys := false, apart := false, laid := [("math/bits.deBruijn32tab", laid_math_bits_deBruijn32tab), ("math/bits.deBruijn64tab", laid_math_bits_deBruijn64tab), ("internal/strconv.uint64pow10", laid_internal_strconv_uint64pow10)], narrowed := true }
def OptionsFormatsUptoSaid : Prop := optionsFormatsUptoRow.holds Tryz.pinned (OpenSpec.upto optionsFormatsSpec)

/-- 'ignitionlaw01.OptionsParses', WHERE WHAT IT READS IS OF BULK AT MOST 1048576: true; the input reads as it did. -/
def optionsParsesUptoRow : OpenClaim := { program := "ytngjjmniigkeoaagreatdoor", sum := "cc20057a137bec701479b25f79e25172de910ffbda649d8efd18ed03619ede38", func := "ignition/ignitionlaw01.OptionsParses", spec := "optionsParses", unfollowed := true, recurses := true, named := ["math/bits.deBruijn64tab", "internal/strconv.uint64pow10", "math/bits.deBruijn32tab"], plainKeys := false, apart := false, laid := [("math/bits.deBruijn32tab", laid_math_bits_deBruijn32tab), ("math/bits.deBruijn64tab", laid_math_bits_deBruijn64tab), ("internal/strconv.uint64pow10", laid_internal_strconv_uint64pow10)], narrowed := true }
def OptionsParsesUptoSaid : Prop := optionsParsesUptoRow.holds Tryz.pinned (OpenSpec.upto optionsParsesSpec)

/-- 'ignitionlaw01.OptionsHolds', WHERE WHAT IT READS IS OF BULK AT MOST 1048576: true; the input reads as it did. -/
def optionsHoldsUptoRow : OpenClaim := { program := "ytngjjmniigkeoaagreatdoor", sum := "cc20057a137bec701479b25f79e25172de910ffbda649d8efd18ed03619ede38", func := "ignition/ignitionlaw01.OptionsHolds", spec := "optionsHolds", unfollowed := true, recurses := true, named := ["math/bits.deBruijn64tab", "internal/strconv.uint64pow10", "math/bits.deBruijn32tab"], plainKeys := false, apart := false, laid := [("math/bits.deBruijn32tab", laid_math_bits_deBruijn32tab), ("math/bits.deBruijn64tab", laid_math_bits_deBruijn64tab), ("internal/strconv.uint64pow10", laid_internal_strconv_uint64pow10)], narrowed := true }
def OptionsHoldsUptoSaid : Prop := optionsHoldsUptoRow.holds Tryz.pinned (OpenSpec.upto optionsHoldsSpec)

/-- 'ignitionlaw01.OptionsFollows', WHERE WHAT IT READS IS OF BULK AT MOST 1048576: true; the input reads as it did. -/
def optionsFollowsUptoRow : OpenClaim := { program := "ytngjjmniigkeoaagreatdoor", sum := "cc20057a137bec701479b25f79e25172de910ffbda649d8efd18ed03619ede38", func := "ignition/ignitionlaw01.OptionsFollows", spec := "optionsFollows", unfollowed := true, recurses := true, named := ["math/bits.deBruijn64tab", "internal/strconv.uint64pow10", "math/bits.deBruijn32tab"], plainKeys := false, apart := false, laid := [("math/bits.deBruijn32tab", laid_math_bits_deBruijn32tab), ("math/bits.deBruijn64tab", laid_math_bits_deBruijn64tab), ("internal/strconv.uint64pow10", laid_internal_strconv_uint64pow10)], narrowed := true }
def OptionsFollowsUptoSaid : Prop := optionsFollowsUptoRow.holds Tryz.pinned (OpenSpec.upto optionsFollowsSpec)

end Rows
end Go.Proofs.YtngjjmniigkeoaaGreatDoor
