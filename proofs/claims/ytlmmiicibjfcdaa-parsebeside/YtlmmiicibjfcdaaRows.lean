/-
  No cell of these rows narrows 'for every input' (looked for: loops, veiled, ifaces, maps, wideKeys, modest, calm, conditions, laid).
  DERIVED. THE GIVEN ROWS OF THIS SEAT. 5 by the template 'for every input the law returns true; each argument reads behind the call as it read before'; 0 by the template 'total and deterministic' (their statements: YtlmmiicibjfcdaaTotals.lean).
  GIVEN WITH THE SEED: the statements are not yours to turn. If you find one false, say at which input.
  Laid BY PROGRAM, IN A SANDBOX (cutbox-rows.mjs): the forced cells as the released guide's own fill.sh prints them over the translation a64b344e616d2e60… (all of the seat's roots in one cut). By AI agents, Wed Nov 11 2026. No macro, syntax, notation, axiom, sorry.
-/
import Derived.Test.YtlmmiicibjfcdaaChecked
import GoSem.Claim
import GoSem.ClaimJoined
import GoSem.ClaimMapViews
import Derived.JoinedTies
import Derived.KernelRfl
namespace Go.Proofs.Ytlmmiicibjfcdaa
/- THE CELL 'sum', in the pinned program and in every row, IS THE sha256 OF THE DUMP (.gsa) THAT YtlmmiicibjfcdaaProg.lean LOADS. Nothing in Lean hashes anything: it is a label: what it is worth is what the hold of that sum in a sandbox is worth. -/
noncomputable def Try.pinned : Pinned := { name := "ytlmmiicibjfcdaa", sum := "a64b344e616d2e6028e28cc353995a1a1b39d68d3244b78c1d29f6afa265794c", checked := Try.checked }
namespace Rows
def none {H : Type} : Left H := { results := [], args := [] }

/-- 'riddlelaw06.ParseTokens': WHATEVER THE INPUT: true; the input reads as it did. -/
def parseTokensSpec : ChangeSpec := { name := "parseTokens", fn := fun _ => fun
  | [d1, d2] => { results := [.lit (.bool true)], args := [d1, d2] }
  | _ => none }
def parseTokensRow : OpenClaim := { program := "ytlmmiicibjfcdaa", sum := "a64b344e616d2e6028e28cc353995a1a1b39d68d3244b78c1d29f6afa265794c", func := "riddle/riddlelaw06.ParseTokens", spec := "parseTokens", unfollowed := true, recurses := true, apart := false }
def ParseTokensSaid : Prop := parseTokensRow.holds Try.pinned (OpenSpec.ofChange parseTokensSpec)

/-- ITS FALSE NEIGHBOUR: 'it returns false'. Refute it at one input. -/
def parseTokensWrong : ChangeSpec := { name := "parseTokens", fn := fun _ => fun
  | [d1, d2] => { results := [.lit (.bool false)], args := [d1, d2] }
  | _ => none }
def ParseTokensWrongFalsely : Prop := parseTokensRow.holds Try.pinned (OpenSpec.ofChange parseTokensWrong)

/-- 'riddlelaw06.ParseLeaf': WHATEVER THE INPUT: true; the input reads as it did. -/
def parseLeafSpec : ChangeSpec := { name := "parseLeaf", fn := fun _ => fun
  | [d1, d2] => { results := [.lit (.bool true)], args := [d1, d2] }
  | _ => none }
def parseLeafRow : OpenClaim := { program := "ytlmmiicibjfcdaa", sum := "a64b344e616d2e6028e28cc353995a1a1b39d68d3244b78c1d29f6afa265794c", func := "riddle/riddlelaw06.ParseLeaf", spec := "parseLeaf", unfollowed := true, recurses := true, apart := false }
def ParseLeafSaid : Prop := parseLeafRow.holds Try.pinned (OpenSpec.ofChange parseLeafSpec)

/-- ITS FALSE NEIGHBOUR: 'it returns false'. Refute it at one input. -/
def parseLeafWrong : ChangeSpec := { name := "parseLeaf", fn := fun _ => fun
  | [d1, d2] => { results := [.lit (.bool false)], args := [d1, d2] }
  | _ => none }
def ParseLeafWrongFalsely : Prop := parseLeafRow.holds Try.pinned (OpenSpec.ofChange parseLeafWrong)

/-- 'riddlelaw06.ParseRight': WHATEVER THE INPUT: true; the input reads as it did. -/
def parseRightSpec : ChangeSpec := { name := "parseRight", fn := fun _ => fun
  | [d1, d2] => { results := [.lit (.bool true)], args := [d1, d2] }
  | _ => none }
def parseRightRow : OpenClaim := { program := "ytlmmiicibjfcdaa", sum := "a64b344e616d2e6028e28cc353995a1a1b39d68d3244b78c1d29f6afa265794c", func := "riddle/riddlelaw06.ParseRight", spec := "parseRight", unfollowed := true, recurses := true, apart := false }
def ParseRightSaid : Prop := parseRightRow.holds Try.pinned (OpenSpec.ofChange parseRightSpec)

/-- ITS FALSE NEIGHBOUR: 'it returns false'. Refute it at one input. -/
def parseRightWrong : ChangeSpec := { name := "parseRight", fn := fun _ => fun
  | [d1, d2] => { results := [.lit (.bool false)], args := [d1, d2] }
  | _ => none }
def ParseRightWrongFalsely : Prop := parseRightRow.holds Try.pinned (OpenSpec.ofChange parseRightWrong)

/-- 'riddlelaw06.ParseGroups': WHATEVER THE INPUT: true; the input reads as it did. -/
def parseGroupsSpec : ChangeSpec := { name := "parseGroups", fn := fun _ => fun
  | [d1, d2] => { results := [.lit (.bool true)], args := [d1, d2] }
  | _ => none }
def parseGroupsRow : OpenClaim := { program := "ytlmmiicibjfcdaa", sum := "a64b344e616d2e6028e28cc353995a1a1b39d68d3244b78c1d29f6afa265794c", func := "riddle/riddlelaw06.ParseGroups", spec := "parseGroups", unfollowed := true, recurses := true, apart := false }
def ParseGroupsSaid : Prop := parseGroupsRow.holds Try.pinned (OpenSpec.ofChange parseGroupsSpec)

/-- ITS FALSE NEIGHBOUR: 'it returns false'. Refute it at one input. -/
def parseGroupsWrong : ChangeSpec := { name := "parseGroups", fn := fun _ => fun
  | [d1, d2] => { results := [.lit (.bool false)], args := [d1, d2] }
  | _ => none }
def ParseGroupsWrongFalsely : Prop := parseGroupsRow.holds Try.pinned (OpenSpec.ofChange parseGroupsWrong)

/-- 'riddlelaw06.ParseBeside': WHATEVER THE INPUT: true; the input reads as it did. -/
def parseBesideSpec : ChangeSpec := { name := "parseBeside", fn := fun _ => fun
  | [d1, d2, d3] => { results := [.lit (.bool true)], args := [d1, d2, d3] }
  | _ => none }
def parseBesideRow : OpenClaim := { program := "ytlmmiicibjfcdaa", sum := "a64b344e616d2e6028e28cc353995a1a1b39d68d3244b78c1d29f6afa265794c", func := "riddle/riddlelaw06.ParseBeside", spec := "parseBeside", unfollowed := true, recurses := true, apart := false }
def ParseBesideSaid : Prop := parseBesideRow.holds Try.pinned (OpenSpec.ofChange parseBesideSpec)

/-- ITS FALSE NEIGHBOUR: 'it returns false'. Refute it at one input. -/
def parseBesideWrong : ChangeSpec := { name := "parseBeside", fn := fun _ => fun
  | [d1, d2, d3] => { results := [.lit (.bool false)], args := [d1, d2, d3] }
  | _ => none }
def ParseBesideWrongFalsely : Prop := parseBesideRow.holds Try.pinned (OpenSpec.ofChange parseBesideWrong)

/- THE SECOND FORM. 'bulk': how many values and letters a reading holds, each counted each time it is reached (what is shared counts as often as it is met; a slice's spare places count too). A statement '..UptoSaid' is the law's where the arguments, and the package variables that the reading takes, are together of bulk at most 1048576: NARROWER than '..Said'. Prove '..Said' where nothing that the law and all that it calls make is longer than what came in: it says more and counts as full. Else prove '..UptoSaid'. A law counts once. -/
mutual
def uptoBulk {H : Type} : DataW H → Nat
  | .lit (.string bytes) => bytes.length + 1
  | .lit _ => 1
  | .nil => 1
  | .ptr d => uptoBulk d + 1
  | .slice elems spare => uptoBulkAll elems + uptoBulkAll spare + 1
  | .agg parts => uptoBulkAll parts + 1
  | .iface _ d => uptoBulk d + 1
  | .map entries => uptoBulkEntries entries + 1
  | .held _ => 1
def uptoBulkAll {H : Type} : List (DataW H) → Nat
  | [] => 0
  | d :: r => uptoBulk d + uptoBulkAll r
def uptoBulkEntries {H : Type} : List (Lit × DataW H) → Nat
  | [] => 0
  | x :: r => uptoBulkEntry x + uptoBulkEntries r
def uptoBulkEntry {H : Type} : Lit × DataW H → Nat
  | (.string bytes, d) => bytes.length + uptoBulk d + 1
  | (_, d) => uptoBulk d + 1
 end
def uptoSmall : (H : Type) → List (DataW H) → Bool := fun _ ds => decide (uptoBulkAll ds ≤ 1048576)
def OpenSpec.upto (s : _root_.Go.ChangeSpec) : _root_.Go.OpenSpec := { _root_.Go.OpenSpec.ofChange s with cond := some uptoSmall }

/-- 'riddlelaw06.ParseTokens', WHERE WHAT IT READS IS OF BULK AT MOST 1048576: true; the input reads as it did. -/
def parseTokensUptoRow : OpenClaim := { program := "ytlmmiicibjfcdaa", sum := "a64b344e616d2e6028e28cc353995a1a1b39d68d3244b78c1d29f6afa265794c", func := "riddle/riddlelaw06.ParseTokens", spec := "parseTokens", unfollowed := true, recurses := true, apart := false, narrowed := true }
def ParseTokensUptoSaid : Prop := parseTokensUptoRow.holds Try.pinned (OpenSpec.upto parseTokensSpec)

/-- 'riddlelaw06.ParseLeaf', WHERE WHAT IT READS IS OF BULK AT MOST 1048576: true; the input reads as it did. -/
def parseLeafUptoRow : OpenClaim := { program := "ytlmmiicibjfcdaa", sum := "a64b344e616d2e6028e28cc353995a1a1b39d68d3244b78c1d29f6afa265794c", func := "riddle/riddlelaw06.ParseLeaf", spec := "parseLeaf", unfollowed := true, recurses := true, apart := false, narrowed := true }
def ParseLeafUptoSaid : Prop := parseLeafUptoRow.holds Try.pinned (OpenSpec.upto parseLeafSpec)

/-- 'riddlelaw06.ParseRight', WHERE WHAT IT READS IS OF BULK AT MOST 1048576: true; the input reads as it did. -/
def parseRightUptoRow : OpenClaim := { program := "ytlmmiicibjfcdaa", sum := "a64b344e616d2e6028e28cc353995a1a1b39d68d3244b78c1d29f6afa265794c", func := "riddle/riddlelaw06.ParseRight", spec := "parseRight", unfollowed := true, recurses := true, apart := false, narrowed := true }
def ParseRightUptoSaid : Prop := parseRightUptoRow.holds Try.pinned (OpenSpec.upto parseRightSpec)

/-- 'riddlelaw06.ParseGroups', WHERE WHAT IT READS IS OF BULK AT MOST 1048576: true; the input reads as it did. -/
def parseGroupsUptoRow : OpenClaim := { program := "ytlmmiicibjfcdaa", sum := "a64b344e616d2e6028e28cc353995a1a1b39d68d3244b78c1d29f6afa265794c", func := "riddle/riddlelaw06.ParseGroups", spec := "parseGroups", unfollowed := true, recurses := true, apart := false, narrowed := true }
def ParseGroupsUptoSaid : Prop := parseGroupsUptoRow.holds Try.pinned (OpenSpec.upto parseGroupsSpec)

/-- 'riddlelaw06.ParseBeside', WHERE WHAT IT READS IS OF BULK AT MOST 1048576: true; the input reads as it did. -/
def parseBesideUptoRow : OpenClaim := { program := "ytlmmiicibjfcdaa", sum := "a64b344e616d2e6028e28cc353995a1a1b39d68d3244b78c1d29f6afa265794c", func := "riddle/riddlelaw06.ParseBeside", spec := "parseBeside", unfollowed := true, recurses := true, apart := false, narrowed := true }
def ParseBesideUptoSaid : Prop := parseBesideUptoRow.holds Try.pinned (OpenSpec.upto parseBesideSpec)

end Rows
end Go.Proofs.Ytlmmiicibjfcdaa
