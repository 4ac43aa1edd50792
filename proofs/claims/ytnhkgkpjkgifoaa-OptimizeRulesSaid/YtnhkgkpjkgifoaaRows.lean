/-
  No cell of these rows narrows 'for every input' (looked for: loops, veiled, ifaces, maps, wideKeys, modest, calm, conditions, laid).
  DERIVED. THE GIVEN ROWS OF THIS SEAT. 2 by the template 'for every input the law returns true; each argument reads behind the call as it read before'; 0 by the template 'total and deterministic' (their statements: YtnhkgkpjkgifoaaTotals.lean).
  GIVEN WITH THE SEED: the statements are not yours to turn. If you find one false, say at which input.
  Laid BY PROGRAM, IN A SANDBOX (cutbox-rows.mjs): the forced cells as the released guide's own fill.sh prints them over the translation 5694c7af34fc7aa4… (all of the seat's roots in one cut). By AI agents, Wed Nov 11 2026. No macro, syntax, notation, axiom, sorry.
-/
import Derived.Test.YtnhkgkpjkgifoaaChecked
import GoSem.Claim
import GoSem.ClaimJoined
import GoSem.ClaimMapViews
import Derived.JoinedTies
import Derived.KernelRfl
namespace Go.Proofs.Ytnhkgkpjkgifoaa
/- THE CELL 'sum', in the pinned program and in every row, IS THE sha256 OF THE DUMP (.gsa) THAT YtnhkgkpjkgifoaaProg.lean LOADS. Nothing in Lean hashes anything: it is a label: what it is worth is what the hold of that sum in a sandbox is worth. -/
noncomputable def Try.pinned : Pinned := { name := "ytnhkgkpjkgifoaa", sum := "5694c7af34fc7aa4c3e26729e3725863932ecf4926e3493fbdd48ade1a58673b", checked := Try.checked }
namespace Rows
def none {H : Type} : Left H := { results := [], args := [] }

/-- 'cellularlaw19.OptimizeRules': WHATEVER THE INPUT: true; the input reads as it did. -/
def optimizeRulesSpec : ChangeSpec := { name := "optimizeRules", fn := fun _ => fun
  | [d1, d2] => { results := [.lit (.bool true)], args := [d1, d2] }
  | _ => none }
def optimizeRulesRow : OpenClaim := { program := "ytnhkgkpjkgifoaa", sum := "5694c7af34fc7aa4c3e26729e3725863932ecf4926e3493fbdd48ade1a58673b", func := "cellular/cellularlaw19.OptimizeRules", spec := "optimizeRules", unfollowed := true, recurses := true, plainKeys := false, apart := false }
def OptimizeRulesSaid : Prop := optimizeRulesRow.holds Try.pinned (OpenSpec.ofChange optimizeRulesSpec)

/-- ITS FALSE NEIGHBOUR: 'it returns false'. Refute it at one input. -/
def optimizeRulesWrong : ChangeSpec := { name := "optimizeRules", fn := fun _ => fun
  | [d1, d2] => { results := [.lit (.bool false)], args := [d1, d2] }
  | _ => none }
def OptimizeRulesWrongFalsely : Prop := optimizeRulesRow.holds Try.pinned (OpenSpec.ofChange optimizeRulesWrong)

/-- 'cellularlaw20.DirectFar': WHATEVER THE INPUT: true; the input reads as it did. -/
def directFarSpec : ChangeSpec := { name := "directFar", fn := fun _ => fun
  | [d1, d2, d3] => { results := [.lit (.bool true)], args := [d1, d2, d3] }
  | _ => none }
def directFarRow : OpenClaim := { program := "ytnhkgkpjkgifoaa", sum := "5694c7af34fc7aa4c3e26729e3725863932ecf4926e3493fbdd48ade1a58673b", func := "cellular/cellularlaw20.DirectFar", spec := "directFar", unfollowed := true, recurses := true, plainKeys := false, apart := false }
def DirectFarSaid : Prop := directFarRow.holds Try.pinned (OpenSpec.ofChange directFarSpec)

/-- ITS FALSE NEIGHBOUR: 'it returns false'. Refute it at one input. -/
def directFarWrong : ChangeSpec := { name := "directFar", fn := fun _ => fun
  | [d1, d2, d3] => { results := [.lit (.bool false)], args := [d1, d2, d3] }
  | _ => none }
def DirectFarWrongFalsely : Prop := directFarRow.holds Try.pinned (OpenSpec.ofChange directFarWrong)

/- THE SECOND FORM. 'bulk': how many values and letters a reading holds, each counted each time it is reached (what is shared counts as often as it is met; a slice's spare places count too). A statement '..UptoSaid' is the law's where the arguments, and the package variables that the reading takes, are together of bulk at most 1048576: NARROWER than '..Said'. Prove '..Said' where nothing that the law and all that it calls make is longer than what came in: it says more and counts as full. Else prove '..UptoSaid'. A law counts once. -/
mutual
def uptoBulk {H : Type} : DataW H → Nat
  | .lit (.string bytes) => bytes.length + 1
  | .lit _ => 1
  | .nil => 1
  | .ptr d => uptoBulk d + 1
  | .slice elems spare => uptoBulkAll elems + uptoBulkAll spare + 1
  | .agg parts => uptoBulkAll parts + 1
  | .iface _ d => uptoBulk d + 1
  | .map entries => uptoBulkEntries entries + 1
  | .held _ => 1
def uptoBulkAll {H : Type} : List (DataW H) → Nat
  | [] => 0
  | d :: r => uptoBulk d + uptoBulkAll r
def uptoBulkEntries {H : Type} : List (Lit × DataW H) → Nat
  | [] => 0
  | x :: r => uptoBulkEntry x + uptoBulkEntries r
def uptoBulkEntry {H : Type} : Lit × DataW H → Nat
  | (.string bytes, d) => bytes.length + uptoBulk d + 1
  | (_, d) => uptoBulk d + 1
 end
def uptoSmall : (H : Type) → List (DataW H) → Bool := fun _ ds => decide (uptoBulkAll ds ≤ 1048576)
def OpenSpec.upto (s : _root_.Go.ChangeSpec) : _root_.Go.OpenSpec := { _root_.Go.OpenSpec.ofChange s with cond := some uptoSmall }

/-- 'cellularlaw19.OptimizeRules', WHERE WHAT IT READS IS OF BULK AT MOST 1048576: true; the input reads as it did. -/
def optimizeRulesUptoRow : OpenClaim := { program := "ytnhkgkpjkgifoaa", sum := "5694c7af34fc7aa4c3e26729e3725863932ecf4926e3493fbdd48ade1a58673b", func := "cellular/cellularlaw19.OptimizeRules", spec := "optimizeRules", unfollowed := true, recurses := true, plainKeys := false, apart := false, narrowed := true }
def OptimizeRulesUptoSaid : Prop := optimizeRulesUptoRow.holds Try.pinned (OpenSpec.upto optimizeRulesSpec)

/-- 'cellularlaw20.DirectFar', WHERE WHAT IT READS IS OF BULK AT MOST 1048576: true; the input reads as it did. -/
def directFarUptoRow : OpenClaim := { program := "ytnhkgkpjkgifoaa", sum := "5694c7af34fc7aa4c3e26729e3725863932ecf4926e3493fbdd48ade1a58673b", func := "cellular/cellularlaw20.DirectFar", spec := "directFar", unfollowed := true, recurses := true, plainKeys := false, apart := false, narrowed := true }
def DirectFarUptoSaid : Prop := directFarUptoRow.holds Try.pinned (OpenSpec.upto directFarSpec)

end Rows
end Go.Proofs.Ytnhkgkpjkgifoaa
